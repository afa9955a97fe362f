package ballot_test

import (
	"fmt"
	"testing"

	"tideline/api"
	"tideline/ballot"
	"tideline/device"
	"tideline/unit"
)

// P10.3

// instance is the one that is asked about.
const instance = 1

// world is acceptors (layer 9's units), and proposers that ask them.
type world struct {
	devices   []*device.Device
	units     []*unit.Unit
	proposers []*ballot.Proposer
	requests  []request // under way: each may come, and come again
	answers   []answer
	chosen    map[string]bool
	came      []string // what happened, to be told if it goes wrong
}

// request is what a proposer asks an acceptor.
type request struct {
	promise bool
	by, to  int
	ballot  api.Ballot
	value   string
}

// answer is what it was answered.
type answer struct {
	by int
	reply
}

func newWorld(t testing.TB, acceptors int) *world {
	w := &world{chosen: map[string]bool{}}
	for range acceptors {
		d, e := device.New(200)
		if e != api.OK {
			t.Fatal(e)
		}
		w.devices = append(w.devices, d)
		w.units = append(w.units, nil)
		w.open(t, len(w.units)-1)
	}
	return w
}

func (w *world) open(t testing.TB, at int) {
	u, e := unit.Open(w.devices[at])
	if e != api.OK {
		t.Fatal(e)
	}
	w.units[at] = u
}

// start adds a proposer with a value that is its alone.
func (w *world) start(b api.Ballot) {
	w.proposers = append(w.proposers, ballot.Start(len(w.units), b, fmt.Appendf(nil, "of %v", b)))
}

// ask lets a proposer's request of its phase be under way.
func (w *world) ask(by, to int) {
	if p := w.proposers[by]; p.Asked(to) {
		w.requests = append(w.requests, request{p.Phase() == ballot.Promising, by, to, p.Ballot(), string(p.Value())})
	}
}

// arrive lets a request come to its acceptor, and its answer be under way.
func (w *world) arrive(r request) answer {
	a := answer{r.by, reply{promise: r.promise, from: r.to}}
	if r.promise {
		b, value, e := w.units[r.to].Promise(instance, r.ballot)
		a.accepted, a.value, a.e = b, string(value), e
	} else {
		a.e = w.units[r.to].Accept(instance, r.ballot, []byte(r.value))
	}
	w.came = append(w.came, fmt.Sprintf("%v: %v", r, a.reply))
	w.answers = append(w.answers, a)
	return a
}

// come lets an answer come to its proposer.
func (w *world) come(t testing.TB, a answer) {
	t.Helper()
	p := w.proposers[a.by]
	tell(p, a.reply)
	w.came = append(w.came, fmt.Sprintf("come: %v", a))
	if p.Phase() != ballot.Chosen {
		return
	}
	w.chosen[string(p.Value())] = true
	if len(w.chosen) > 1 {
		t.Fatalf("%v chosen: %v", w.chosen, w.came)
	}
}

// now asks an acceptor, and lets its answer come.
func (w *world) now(t testing.TB, by, to int) {
	t.Helper()
	from := len(w.requests)
	w.ask(by, to)
	for _, r := range w.requests[from:] {
		w.come(t, w.arrive(r))
	}
}

// All orders in which two proposers' requests come to three acceptors, each answered at once; of two acceptors likewise.
func TestAllOrders(t *testing.T) {
	for acceptors := 1; acceptors <= 3; acceptors++ {
		some := map[int]bool{}
		for path := []int{0}; path != nil; {
			path = followed(t, acceptors, path, some)
		}
		if !some[0] || !some[1] {
			t.Errorf("of %d acceptors: chosen %v", acceptors, some)
		}
	}
}

// followed goes a path of choices, adding to it the first choice as long as there is one, and gives the next path, if there is one.
func followed(t *testing.T, acceptors int, path []int, some map[int]bool) []int {
	t.Helper()
	w := newWorld(t, acceptors)
	w.start(of(1, 1))
	w.start(of(1, 2))
	var counts []int
	for i := 0; ; i++ {
		choices := w.choices()
		if len(choices) == 0 {
			break
		}
		if i == len(path) {
			path = append(path, 0)
		}
		counts = append(counts, len(choices))
		c := choices[path[i]]
		w.now(t, c[0], c[1])
	}
	for by, p := range w.proposers {
		some[by] = some[by] || p.Phase() == ballot.Chosen
	}
	path = path[:len(counts)]
	for i := len(path) - 1; i >= 0; i-- {
		if path[i]++; path[i] < counts[i] {
			return path[:i+1]
		}
	}
	return nil
}

// choices gives who may ask whom.
func (w *world) choices() [][2]int {
	var all [][2]int
	for by, p := range w.proposers {
		for to := range w.units {
			if p.Asked(to) {
				all = append(all, [2]int{by, to})
			}
		}
	}
	return all
}

// step lets something happen, as bytes say: a request, one that comes, or comes again, an answer that does, a proposer more, a crash of an acceptor.
func (s *script) step(t testing.TB, w *world) {
	t.Helper()
	switch kind := s.one() % 32; {
	case kind == 0 && len(w.proposers) < 9:
		b := w.proposers[s.one()%len(w.proposers)].Ballot()
		w.start(ballot.Above(b, len(w.proposers)))
	case kind == 1:
		at := s.one() % len(w.units)
		w.devices[at].Crash(nil)
		w.open(t, at)
	case kind < 12:
		w.ask(s.one()%len(w.proposers), s.one()%len(w.units))
	case kind < 22 && len(w.requests) > 0:
		w.arrive(w.requests[s.recent(len(w.requests))])
	case len(w.answers) > 0:
		w.come(t, w.answers[s.recent(len(w.answers))])
	}
}

// recent gives a number below n, mostly one of the last.
func (s *script) recent(n int) int {
	back := s.one()
	if back%4 > 0 {
		back %= 4
	}
	return n - 1 - back%n
}

// agree lets things happen to two proposers and more, and counts whose values were chosen.
func agree(t testing.TB, b []byte) map[string]bool {
	t.Helper()
	s := script(b)
	w := newWorld(t, 1+s.one()%5)
	w.start(of(1, 0))
	w.start(of(1, 1))
	for len(s) > 0 {
		s.step(t, w)
	}
	return w.chosen
}

func TestOneValue(t *testing.T) {
	some := map[string]int{}
	for seed := range int64(6000) {
		for value := range agree(t, someBytes(seed, 600)) {
			some[value]++
		}
	}
	if len(some) < 3 || some["of {1 0}"] < 100 || some["of {1 1}"] < 100 {
		t.Errorf("chosen: %v", some)
	}
}

func FuzzOneValue(f *testing.F) {
	for seed := range int64(10) {
		f.Add(someBytes(seed, 300))
	}
	f.Fuzz(func(t *testing.T, b []byte) {
		agree(t, b[:min(len(b), 900)])
	})
}

// A value that was chosen is chosen again by whoever comes behind, and who was ahead is refused.
func TestChosenAgain(t *testing.T) {
	w := newWorld(t, 3)
	w.start(of(1, 1))
	w.start(of(1, 0))
	w.now(t, 1, 2)
	for _, to := range []int{0, 1, 0, 1} {
		w.now(t, 0, to)
	}
	w.start(ballot.Above(of(1, 1), 2))
	for _, to := range []int{2, 1, 2, 1} {
		w.now(t, 2, to)
	}
	for _, to := range []int{0, 1} {
		w.now(t, 1, to)
	}
	wantAt(t, w.proposers[0], ballot.Chosen, "of {1 1}")
	wantAt(t, w.proposers[2], ballot.Chosen, "of {1 1}")
	wantAt(t, w.proposers[1], ballot.Refused, "of {1 0}")
}

// A value that one acceptor alone has accepted may yet be chosen, by another one's ballot.
func TestHalfDoneValue(t *testing.T) {
	w := newWorld(t, 3)
	w.start(of(1, 1))
	for _, to := range []int{0, 1, 0} {
		w.now(t, 0, to)
	}
	w.start(of(1, 2))
	for _, to := range []int{2, 0, 2, 0} {
		w.now(t, 1, to)
	}
	w.now(t, 0, 1)
	wantAt(t, w.proposers[0], ballot.Chosen, "of {1 1}")
	wantAt(t, w.proposers[1], ballot.Chosen, "of {1 1}")
}
