package ballot_test

import (
	"math"
	"slices"
	"testing"

	"tideline/api"
	"tideline/ballot"
)

func of(round, who int) api.Ballot { return api.Ballot{Round: round, Who: who} }

// wantAt looks where a proposer is.
func wantAt(t *testing.T, p *ballot.Proposer, phase int, value string) {
	t.Helper()
	if p.Phase() != phase || string(p.Value()) != value {
		t.Errorf("phase %d, %q, not %d, %q", p.Phase(), p.Value(), phase, value)
	}
}

// wantAsked looks which of the acceptors from -2 to 9 are asked.
func wantAsked(t *testing.T, p *ballot.Proposer, want ...int) {
	t.Helper()
	var got []int
	for from := -2; from < 10; from++ {
		if p.Asked(from) {
			got = append(got, from)
		}
	}
	if !slices.Equal(got, want) {
		t.Errorf("asked %v, not %v", got, want)
	}
}

// accepting gives a proposer that goes to Accept its own value, of three acceptors, the last of which didn't answer.
func accepting() *ballot.Proposer {
	p := ballot.Start(3, of(2, 5), []byte("own"))
	p.Promised(0, of(0, 0), nil, api.OK)
	p.Promised(1, of(0, 0), nil, api.OK)
	return p
}

// P10.1: Start

func TestStart(t *testing.T) {
	for _, n := range []int{1, 2, 3, 7} {
		p := ballot.Start(n, of(4, 9), []byte("own"))
		wantAt(t, p, ballot.Promising, "own")
		wantAsked(t, p, []int{0, 1, 2, 3, 4, 5, 6}[:n]...)
		if p.Ballot() != of(4, 9) {
			t.Errorf("%v", p.Ballot())
		}
	}
}

func TestPhases(t *testing.T) {
	if ballot.Promising != 1 || ballot.Accepting != 2 || ballot.Chosen != 3 || ballot.Refused != 4 {
		t.Error("the phases aren't 1 to 4")
	}
}

func TestStartFewerThanOne(t *testing.T) {
	for _, n := range []int{0, -1, -7, math.MinInt} {
		p := ballot.Start(n, of(1, 1), nil)
		wantAsked(t, p, 0)
		p.Promised(0, of(0, 0), nil, api.OK)
		wantAt(t, p, ballot.Accepting, "")
		p.Accepted(0, api.OK)
		wantAt(t, p, ballot.Chosen, "")
	}
}

func TestStartMany(t *testing.T) {
	p := ballot.Start(math.MaxInt, of(1, 1), []byte("own"))
	if !p.Asked(math.MaxInt-1) || p.Asked(math.MaxInt) {
		t.Error("wrong ones are asked")
	}
	for from := range 1000 {
		p.Promised(math.MaxInt-1-from, of(1, 0), []byte("other"), api.Errno(from%2))
	}
	wantAt(t, p, ballot.Promising, "own")
}

// Any ballot and value may be a proposer's.
func TestStartAny(t *testing.T) {
	for _, b := range []api.Ballot{of(0, 0), of(-1, -9), of(math.MaxInt, math.MinInt)} {
		for _, value := range []string{"", "\x00", string(make([]byte, 5000))} {
			p := ballot.Start(1, b, []byte(value))
			wantAt(t, p, ballot.Promising, value)
			p.Promised(0, of(0, 0), []byte("nothing of it"), api.OK)
			p.Accepted(0, api.OK)
			wantAt(t, p, ballot.Chosen, value)
			if p.Ballot() != b {
				t.Errorf("%v, not %v", p.Ballot(), b)
			}
		}
	}
}

// P10.1: most

// Example 1.
func TestOwnValueChosen(t *testing.T) {
	p := ballot.Start(3, of(1, 7), []byte("own"))
	p.Promised(2, of(0, 0), nil, api.OK)
	wantAt(t, p, ballot.Promising, "own")
	p.Promised(0, of(0, 0), nil, api.OK)
	wantAt(t, p, ballot.Accepting, "own")
	p.Accepted(1, api.OK)
	wantAt(t, p, ballot.Accepting, "own")
	p.Accepted(0, api.OK)
	wantAt(t, p, ballot.Chosen, "own")
	if p.Ballot() != of(1, 7) {
		t.Errorf("%v", p.Ballot())
	}
}

// phaseOf tells where a proposer is when so many acceptors have answered, in a phase, OK and with an error.
func phaseOf(phase, acceptors, fine, refused int) int {
	p := ballot.Start(acceptors, of(1, 1), nil)
	if phase == ballot.Accepting {
		for from := range acceptors {
			p.Promised(from, of(0, 0), nil, api.OK)
		}
	}
	for from := range fine + refused {
		e := api.OK
		if from >= fine {
			e = api.ErrBusy
		}
		if phase == ballot.Promising {
			p.Promised(from, of(0, 0), nil, e)
		} else {
			p.Accepted(from, e)
		}
	}
	return p.Phase()
}

func TestMost(t *testing.T) {
	for _, c := range []struct{ acceptors, fine, refused int }{
		{1, 1, 1}, {2, 2, 1}, {3, 2, 2}, {4, 3, 2}, {5, 3, 3}, {6, 4, 3}, {7, 4, 4}, {100, 51, 50}, {101, 51, 51},
	} {
		for _, phase := range []int{ballot.Promising, ballot.Accepting} {
			if got := phaseOf(phase, c.acceptors, c.fine-1, 0); got != phase {
				t.Errorf("%d OK of %d: %d", c.fine-1, c.acceptors, got)
			}
			if got := phaseOf(phase, c.acceptors, c.fine, 0); got != phase+1 {
				t.Errorf("%d OK of %d: %d", c.fine, c.acceptors, got)
			}
			if got := phaseOf(phase, c.acceptors, 0, c.refused-1); got != phase {
				t.Errorf("%d refused of %d: %d", c.refused-1, c.acceptors, got)
			}
			if got := phaseOf(phase, c.acceptors, 0, c.refused); got != ballot.Refused {
				t.Errorf("%d refused of %d: %d", c.refused, c.acceptors, got)
			}
			if got := phaseOf(phase, c.acceptors, c.acceptors-c.refused, c.refused); got != ballot.Refused {
				t.Errorf("%d OK, then %d refused of %d: %d", c.acceptors-c.refused, c.refused, c.acceptors, got)
			}
			if got := phaseOf(phase, c.acceptors, c.fine-1, c.refused-1); got != phase {
				t.Errorf("%d OK, then %d refused of %d: %d", c.fine-1, c.refused-1, c.acceptors, got)
			}
		}
	}
}

// Whatever the error is, it is a refusal, and what is told beside it isn't noted.
func TestRefusals(t *testing.T) {
	for _, e := range []api.Errno{api.ErrArg, api.ErrFull, api.ErrBusy, api.ErrSealed, 99, -1} {
		p := ballot.Start(3, of(2, 5), []byte("own"))
		p.Promised(1, of(1, 1), []byte("other"), e)
		wantAsked(t, p, 0, 2)
		p.Promised(0, of(0, 0), nil, api.OK)
		p.Promised(2, of(0, 0), nil, api.OK)
		wantAt(t, p, ballot.Accepting, "own")
		p.Accepted(2, e)
		wantAsked(t, p, 0, 1)
		p.Accepted(1, e)
		wantAt(t, p, ballot.Refused, "own")
	}
}

func TestRefusedWhilePromising(t *testing.T) {
	p := ballot.Start(3, of(2, 5), []byte("own"))
	p.Promised(0, of(1, 1), []byte("other"), api.OK)
	p.Promised(1, of(0, 0), nil, api.ErrBusy)
	p.Promised(2, of(0, 0), nil, api.ErrBusy)
	wantAt(t, p, ballot.Refused, "own")
}

func TestRefusedWhileAccepting(t *testing.T) {
	p := ballot.Start(3, of(2, 5), []byte("own"))
	p.Promised(0, of(1, 1), []byte("other"), api.OK)
	p.Promised(1, of(0, 0), nil, api.OK)
	p.Accepted(2, api.ErrBusy)
	p.Accepted(1, api.ErrBusy)
	wantAt(t, p, ballot.Refused, "other")
}

// What refused the ballot doesn't count to the value.
func TestRefusalsOfAPhase(t *testing.T) {
	p := ballot.Start(3, of(2, 5), nil)
	p.Promised(0, of(0, 0), nil, api.ErrBusy)
	p.Promised(1, of(0, 0), nil, api.OK)
	p.Promised(2, of(0, 0), nil, api.OK)
	p.Accepted(1, api.ErrBusy)
	wantAt(t, p, ballot.Accepting, "")
	wantAsked(t, p, 0, 2)
	p.Accepted(0, api.OK)
	p.Accepted(2, api.OK)
	wantAt(t, p, ballot.Chosen, "")
}

// P10.1: the value

// valueOf gives the value that a proposer goes to Accept when all its acceptors answer so.
func valueOf(t *testing.T, told ...reply) string {
	t.Helper()
	p := ballot.Start(2*len(told)-1, of(9, 9), []byte("own"))
	for i, r := range told {
		p.Promised(i, r.accepted, []byte(r.value), api.OK)
	}
	if p.Phase() != ballot.Accepting {
		t.Errorf("phase %d", p.Phase())
	}
	return string(p.Value())
}

func TestValue(t *testing.T) {
	told := func(round, who int, value string) reply { return reply{accepted: of(round, who), value: value} }
	none := told(0, 0, "not accepted")
	for i, c := range []struct {
		told []reply
		want string
	}{
		{[]reply{none}, "own"},
		{[]reply{none, none, none}, "own"},
		{[]reply{none, told(1, 1, "a"), none}, "a"},
		{[]reply{told(0, 1, "a"), none}, "a"},
		{[]reply{told(1, 0, "a"), none}, "a"},
		{[]reply{told(1, 1, ""), none}, ""},
		{[]reply{told(1, 9, "a"), told(2, 0, "b")}, "b"},
		{[]reply{told(2, 0, "b"), told(1, 9, "a")}, "b"},
		{[]reply{told(2, 3, "a"), told(2, 4, "b"), told(2, 2, "c")}, "b"},
		{[]reply{told(3, 3, "a"), told(3, 3, "b"), told(3, 3, "c")}, "a"},
		{[]reply{told(1, 1, "c"), told(3, 3, "b"), none, told(3, 3, "a"), told(2, 8, "d")}, "b"},
		{[]reply{told(99, 1, "a"), told(1, 99, "b")}, "a"},
		{[]reply{told(9, 9, "a"), none}, "a"},
		{[]reply{told(-1, 0, "a"), none}, "a"},
		{[]reply{none, told(0, -1, "a")}, "a"},
		{[]reply{told(0, -1, "a"), told(-1, 7, "b")}, "a"},
		{[]reply{told(-3, 0, "a"), none, told(-2, -7, "b"), told(-2, -8, "c")}, "b"},
		{[]reply{told(math.MinInt, 0, "a"), told(math.MinInt, math.MinInt, "b"), told(math.MaxInt, 0, "c")}, "c"},
	} {
		if got := valueOf(t, c.told...); got != c.want {
			t.Errorf("%d: %q, not %q", i, got, c.want)
		}
	}
}

// Many answers tell one ballot: in whatever order they are kept, the first one counts.
func TestFirstOfOneBallot(t *testing.T) {
	const acceptors = 31
	for first := range acceptors {
		p := ballot.Start(acceptors, of(9, 9), []byte("own"))
		for i := range acceptors/2 + 1 {
			from := (first + 7*i) % acceptors
			p.Promised(from, of(3, 4), []byte{byte(from)}, api.OK)
		}
		wantAt(t, p, ballot.Accepting, string([]byte{byte(first)}))
	}
}

// What comes behind most of the answers comes too late for the value.
func TestValueStays(t *testing.T) {
	p := accepting()
	p.Promised(2, of(2, 4), []byte("late"), api.OK)
	wantAt(t, p, ballot.Accepting, "own")
	p.Accepted(0, api.OK)
	p.Promised(2, of(2, 4), []byte("late"), api.OK)
	p.Accepted(1, api.OK)
	p.Promised(2, of(2, 4), []byte("late"), api.OK)
	wantAt(t, p, ballot.Chosen, "own")
}

// P10.1: what is passed over

func TestNoSuchAcceptor(t *testing.T) {
	for _, from := range []int{3, 4, -1, -3, math.MinInt, math.MaxInt} {
		p := ballot.Start(3, of(2, 5), []byte("own"))
		for _, e := range []api.Errno{api.OK, api.ErrBusy, api.OK, api.ErrBusy} {
			p.Promised(from, of(1, 1), []byte("other"), e)
		}
		wantAt(t, p, ballot.Promising, "own")
		wantAsked(t, p, 0, 1, 2)
		p = accepting()
		for _, e := range []api.Errno{api.OK, api.ErrBusy, api.OK, api.ErrBusy} {
			p.Accepted(from, e)
		}
		wantAt(t, p, ballot.Accepting, "own")
		wantAsked(t, p, 0, 1, 2)
	}
}

func TestFirstAnswerAlone(t *testing.T) {
	for _, pair := range [][2]api.Errno{{api.OK, api.OK}, {api.OK, api.ErrBusy}, {api.ErrBusy, api.OK}, {api.ErrBusy, api.ErrBusy}} {
		p := ballot.Start(3, of(2, 5), []byte("own"))
		p.Promised(1, of(0, 0), nil, pair[0])
		p.Promised(1, of(1, 1), []byte("other"), pair[1])
		p.Promised(1, of(1, 1), []byte("other"), pair[1])
		wantAt(t, p, ballot.Promising, "own")
		wantAsked(t, p, 0, 2)
		p = accepting()
		p.Accepted(1, pair[0])
		p.Accepted(1, pair[1])
		p.Accepted(1, pair[1])
		wantAt(t, p, ballot.Accepting, "own")
		wantAsked(t, p, 0, 2)
	}
}

// An answer of another phase isn't that acceptor's answer in this one.
func TestAnotherPhase(t *testing.T) {
	p := ballot.Start(3, of(2, 5), []byte("own"))
	for from := range 3 {
		p.Accepted(from, api.OK)
		p.Accepted(from, api.ErrBusy)
	}
	wantAt(t, p, ballot.Promising, "own")
	wantAsked(t, p, 0, 1, 2)
	p = accepting()
	for from := range 3 {
		p.Promised(from, of(1, 1), []byte("other"), api.ErrBusy)
		p.Promised(from, of(1, 1), []byte("other"), api.OK)
	}
	wantAt(t, p, ballot.Accepting, "own")
	wantAsked(t, p, 0, 1, 2)
}

// When it is Chosen or Refused nobody is asked, and nothing is taken.
func TestAtTheEnd(t *testing.T) {
	chosen := accepting()
	chosen.Accepted(0, api.OK)
	chosen.Accepted(1, api.OK)
	refused := accepting()
	refused.Accepted(0, api.ErrBusy)
	refused.Accepted(1, api.ErrBusy)
	sooner := ballot.Start(3, of(2, 5), []byte("own"))
	sooner.Promised(0, of(0, 0), nil, api.ErrBusy)
	sooner.Promised(1, of(0, 0), nil, api.ErrBusy)
	for i, p := range []*ballot.Proposer{chosen, refused, sooner} {
		want := []int{ballot.Chosen, ballot.Refused, ballot.Refused}[i]
		for from := range 3 {
			for _, e := range []api.Errno{api.OK, api.ErrBusy} {
				p.Promised(from, of(1, 1), []byte("other"), e)
				p.Accepted(from, e)
			}
		}
		wantAt(t, p, want, "own")
		wantAsked(t, p)
	}
}

// P10.2

func TestAbove(t *testing.T) {
	for _, c := range []struct {
		b    api.Ballot
		who  int
		want api.Ballot
	}{
		{of(0, 0), 0, of(1, 0)},
		{of(0, 0), 8, of(1, 8)},
		{of(3, 9), 1, of(4, 1)},
		{of(3, 9), 9, of(4, 9)},
		{of(-1, 4), -5, of(0, -5)},
		{of(math.MaxInt32, 1), 2, of(math.MaxInt32+1, 2)},
		{of(math.MaxInt, 1), 2, of(math.MinInt, 2)},
		{of(math.MinInt, 1), math.MinInt, of(math.MinInt+1, math.MinInt)},
		{of(1, math.MaxInt), math.MaxInt, of(2, math.MaxInt)},
	} {
		if got := ballot.Above(c.b, c.who); got != c.want {
			t.Errorf("above %v, of %d: %v", c.b, c.who, got)
		}
	}
}
