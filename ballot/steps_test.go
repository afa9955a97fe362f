package ballot_test

import (
	"math"
	"math/rand"
	"testing"

	"tideline/api"
	"tideline/ballot"
)

// replies gives answers of three acceptors, and of one that there isn't.
func replies() []reply {
	var all []reply
	for from := range 4 {
		all = append(all,
			reply{promise: true, from: from, e: api.OK},
			reply{promise: true, from: from, accepted: of(2, 1-from/2), value: string("abcd"[from]), e: api.OK},
			reply{promise: true, from: from, accepted: of(7, 7), value: "refused", e: api.ErrBusy},
			reply{from: from, e: api.OK},
			reply{from: from, e: api.ErrBusy},
		)
	}
	return all
}

// All runs of a few answers.
func TestAllReplies(t *testing.T) {
	const long = 4
	all := replies()
	count := 1
	for range long {
		count *= len(all)
	}
	for number := range count {
		for acceptors := 1; acceptors <= 3; acceptors++ {
			p := newPair(acceptors, of(3, 0), "own")
			for rest, i := number, 0; i < long; i++ {
				p.come(all[rest%len(all)])
				rest /= len(all)
			}
			p.alike(t)
		}
	}
}

// script tells one byte behind the other; noughts, when it is at its end.
type script []byte

func (s *script) one() int {
	if len(*s) == 0 {
		return 0
	}
	b := (*s)[0]
	*s = (*s)[1:]
	return int(b)
}

func (s *script) of(numbers ...int) int { return numbers[s.one()%len(numbers)] }

func (s *script) ballot() api.Ballot {
	return of(s.of(0, 0, 1, 2, -1, math.MaxInt), s.of(0, 0, 1, 2, -1, math.MinInt))
}

func (s *script) errno() api.Errno { return api.Errno(s.of(0, 0, 0, 0, 7, 7, 7, 1, 99, -1)) }

func (s *script) reply(acceptors int) reply {
	r := reply{promise: s.one()%2 == 0, from: s.one()%(acceptors+2) - 1, e: s.errno()}
	if r.promise {
		r.accepted = s.ballot()
		r.value = string(make([]byte, s.one()%3)) + string(rune('a'+s.one()%20))
	}
	return r
}

// goThrough lets answers come as the bytes say, and looks behind each whether the proposer is what the document says.
func goThrough(t testing.TB, b []byte) {
	t.Helper()
	s := script(b)
	acceptors := s.one() % 9
	p := newPair(acceptors, s.ballot(), "own")
	p.alike(t)
	for len(s) > 0 {
		p.come(s.reply(acceptors))
		p.alike(t)
	}
}

func someBytes(seed int64, size int) []byte {
	b := make([]byte, size)
	rand.New(rand.NewSource(seed)).Read(b)
	return b
}

func TestAnyReplies(t *testing.T) {
	for seed := range int64(5000) {
		goThrough(t, someBytes(seed, 150))
	}
}

func FuzzReplies(f *testing.F) {
	for seed := range int64(10) {
		f.Add(someBytes(seed, 80))
	}
	f.Add([]byte{})
	f.Fuzz(goThroughFuzzed)
}

func goThroughFuzzed(t *testing.T, b []byte) { goThrough(t, b) }

// Rule 4: nothing is shared.

func TestNothingIsShared(t *testing.T) {
	spoil := func(b []byte) {
		for i := range b {
			b[i] ^= 255
		}
		_ = append(b, 99)
	}
	given := append(make([]byte, 0, 9), "own"...)
	p := ballot.Start(3, of(2, 5), given)
	spoil(given)
	spoil(p.Value())
	wantAt(t, p, ballot.Promising, "own")

	told := append(make([]byte, 0, 9), "told"...)
	p.Promised(0, of(1, 1), told, api.OK)
	spoil(told)
	p.Promised(1, of(0, 0), told, api.OK)
	wantAt(t, p, ballot.Accepting, "told")
	spoil(p.Value())
	wantAt(t, p, ballot.Accepting, "told")

	p = accepting()
	spoil(p.Value())
	p.Accepted(0, api.OK)
	p.Accepted(1, api.OK)
	spoil(p.Value())
	wantAt(t, p, ballot.Chosen, "own")
}

func TestArgumentsStay(t *testing.T) {
	own, told := []byte("own"), []byte("told")
	p := ballot.Start(1, of(2, 5), own)
	p.Promised(0, of(1, 1), told, api.OK)
	p.Accepted(0, api.OK)
	if string(own) != "own" || string(told) != "told" {
		t.Errorf("%q, %q", own, told)
	}
}

// P1, P2

func TestAnyArguments(t *testing.T) {
	numbers := []int{math.MinInt, math.MinInt + 1, -1, 0, 1, 2, math.MaxInt32, math.MaxInt - 1, math.MaxInt}
	for _, acceptors := range numbers {
		for _, b := range numbers {
			p := newPair(acceptors, of(b, -b), "own")
			for _, from := range numbers {
				for _, e := range numbers {
					p.come(reply{promise: true, from: from, accepted: of(e, from), value: "v", e: api.Errno(from)})
					p.come(reply{from: from, e: api.Errno(e)})
				}
			}
			p.alike(t)
			if p.p.Asked(math.MinInt) || p.p.Asked(math.MaxInt) {
				t.Errorf("of %d: asked whom there isn't", acceptors)
			}
		}
	}
}

// The same answers lead to the same value, however often they are given.
func TestSameRepliesAgain(t *testing.T) {
	for seed := range int64(50) {
		var first string
		for again := range 20 {
			s := script(someBytes(seed, 300))
			p := ballot.Start(7, of(3, 3), []byte("own"))
			for len(s) > 0 {
				tell(p, s.reply(7))
			}
			if again == 0 {
				first = string(p.Value())
			}
			if string(p.Value()) != first {
				t.Fatalf("%d: %q, then %q", seed, first, p.Value())
			}
		}
	}
}

// Many acceptors take no longer, each, than few.
func TestManyAcceptors(t *testing.T) {
	const acceptors = 200_001
	p := ballot.Start(acceptors, of(1, 1), []byte("own"))
	for from := range acceptors {
		p.Promised(from, of(0, from%3), []byte{byte(from)}, api.OK)
	}
	wantAt(t, p, ballot.Accepting, "\x02")
	for from := range acceptors {
		p.Accepted(from, api.OK)
	}
	wantAt(t, p, ballot.Chosen, "\x02")
}
