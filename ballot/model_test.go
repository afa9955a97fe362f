package ballot_test

import (
	"slices"
	"testing"

	"tideline/api"
	"tideline/ballot"
)

// reply is an answer of an acceptor: to the ballot, or to the value.
type reply struct {
	promise  bool
	from     int
	accepted api.Ballot
	value    string
	e        api.Errno
}

// model is the document's words on all answers that came, each time from the first one on.
type model struct {
	acceptors int
	ballot    api.Ballot
	own       string
	came      []reply
}

// state is what the words come to.
type state struct {
	phase    int
	value    string
	answered []int // in the phase
}

// isMost tells whether n acceptors are more than half of them.
func (m *model) isMost(n int) bool { return n > m.acceptors-n }

func (m *model) state() state {
	s := state{phase: ballot.Promising, value: m.own}
	var fine []reply
	refused := 0
	for _, r := range m.came {
		if r.promise != (s.phase == ballot.Promising) || s.phase > ballot.Accepting || !m.asked(s, r.from) {
			continue
		}
		s.answered = append(s.answered, r.from)
		if r.e == api.OK {
			fine = append(fine, r)
		} else {
			refused++
		}
		switch {
		case m.isMost(len(fine)) && s.phase == ballot.Promising:
			s = state{phase: ballot.Accepting, value: greatest(fine, m.own)}
			fine, refused = nil, 0
		case m.isMost(len(fine)):
			s.phase = ballot.Chosen
		case !m.isMost(m.acceptors - refused):
			s.phase = ballot.Refused
		}
	}
	return s
}

func (m *model) asked(s state, from int) bool {
	return s.phase <= ballot.Accepting && from >= 0 && from < m.acceptors && !slices.Contains(s.answered, from)
}

// greatest gives the value of the greatest ballot that was told, of two of them the first one.
func greatest(told []reply, own string) string {
	told = slices.DeleteFunc(slices.Clone(told), func(r reply) bool { return r.accepted.Round == 0 && r.accepted.Who == 0 })
	if len(told) == 0 {
		return own
	}
	return slices.MaxFunc(told, func(a, b reply) int {
		return slices.Compare([]int{a.accepted.Round, a.accepted.Who}, []int{b.accepted.Round, b.accepted.Who})
	}).value
}

// pair is a proposer, and what the document says of it.
type pair struct {
	p *ballot.Proposer
	m model
}

func newPair(acceptors int, b api.Ballot, own string) *pair {
	return &pair{ballot.Start(acceptors, b, []byte(own)), model{acceptors: max(acceptors, 1), ballot: b, own: own}}
}

func (p *pair) come(r reply) {
	tell(p.p, r)
	p.m.came = append(p.m.came, r)
}

// tell lets an answer come to a proposer.
func tell(p *ballot.Proposer, r reply) {
	if r.promise {
		p.Promised(r.from, r.accepted, []byte(r.value), r.e)
	} else {
		p.Accepted(r.from, r.e)
	}
}

// alike looks whether the proposer is what the document says.
func (p *pair) alike(t testing.TB) {
	t.Helper()
	s := p.m.state()
	if p.p.Phase() != s.phase || p.p.Ballot() != p.m.ballot || string(p.p.Value()) != s.value {
		t.Fatalf("of %d, behind %v: phase %d, %v, %q, not %v", p.m.acceptors, p.m.came, p.p.Phase(), p.p.Ballot(), p.p.Value(), s)
	}
	for from := -2; from < min(p.m.acceptors, 9)+2; from++ {
		if p.p.Asked(from) != p.m.asked(s, from) {
			t.Fatalf("of %d, behind %v: asked %d: %v", p.m.acceptors, p.m.came, from, p.p.Asked(from))
		}
	}
}
