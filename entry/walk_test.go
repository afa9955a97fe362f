package entry_test

import (
	"bytes"
	"math"
	"math/rand"
	"slices"
	"strconv"
	"testing"

	"tideline/api"
	"tideline/entry"
)

// records is a log that notes what is asked of it, and what is gone through, in order.
type records struct {
	log   map[int]api.Log
	noted []string
}

// backs gives a log of entries at some addresses, each with its Back, and its address as its Payload.
func backs(back map[int]int) *records {
	r := &records{log: map[int]api.Log{}}
	for at, b := range back {
		r.log[at] = api.Log{Kind: api.EntryCall, Stream: 2, Back: b, Payload: []byte(strconv.Itoa(at))}
	}
	return r
}

func (r *records) note(what string, at int) { r.noted = append(r.noted, what+" "+strconv.Itoa(at)) }

func (r *records) read(at int) (api.Log, bool) {
	r.note("ask", at)
	x, is := r.log[at]
	return x, is
}

// walk goes through the stream from at on, until it has had so many of it.
func (r *records) walk(t *testing.T, seq func(func(int, api.Log) bool), most int) {
	t.Helper()
	for at, x := range seq {
		r.note("see", at)
		if !same(x, r.log[at]) {
			t.Errorf("at %d: %#v", at, x)
		}
		if most--; most == 0 {
			return
		}
	}
	r.note("end", 0)
}

func wantNoted(t *testing.T, what string, r *records, want ...string) {
	t.Helper()
	if !slices.Equal(r.noted, want) {
		t.Errorf("%s: %q, not %q", what, r.noted, want)
	}
}

// P7.2

func TestWalkExample(t *testing.T) {
	for _, at := range []int{-1, -2, math.MinInt} {
		r := backs(map[int]int{-1: -2, -2: -3, 0: -1})
		r.walk(t, entry.Walk(at, r.read), 9)
		wantNoted(t, "from below 0", r, "end 0")
	}
}

func TestWalk(t *testing.T) {
	r := backs(map[int]int{9: 6, 8: 5, 6: 2, 5: 0, 2: 1, 1: -1, 0: -1})
	r.walk(t, entry.Walk(9, r.read), 99)
	wantNoted(t, "a stream", r, "ask 9", "see 9", "ask 6", "see 6", "ask 2", "see 2", "ask 1", "see 1", "end 0")
}

func TestWalkFarAddresses(t *testing.T) {
	r := backs(map[int]int{math.MaxInt: 1 << 32, 1 << 32: 1 << 31, 1 << 31: 0, 0: math.MinInt})
	r.walk(t, entry.Walk(math.MaxInt, r.read), 99)
	wantNoted(t, "far", r, "ask 9223372036854775807", "see 9223372036854775807", "ask 4294967296", "see 4294967296", "ask 2147483648", "see 2147483648", "ask 0", "see 0", "end 0")
}

func TestWalkToNothing(t *testing.T) {
	r := backs(map[int]int{7: 3, 2: 1})
	r.walk(t, entry.Walk(7, r.read), 99)
	wantNoted(t, "nothing is told at 3", r, "ask 7", "see 7", "ask 3", "end 0")
	r = backs(nil)
	r.walk(t, entry.Walk(7, r.read), 99)
	wantNoted(t, "nothing is told at all", r, "ask 7", "end 0")
}

// What is told beside a false isn't an entry, whatever it is.
func TestWalkPassesOverWhatIsNone(t *testing.T) {
	for at := range entry.Walk(7, func(at int) (api.Log, bool) { return plain(), at == 7 }) {
		if at != 7 {
			t.Errorf("%d", at)
		}
	}
}

func TestWalkOnlyBack(t *testing.T) {
	for _, back := range []int{7, 8, 9, math.MaxInt} {
		r := backs(map[int]int{7: back, 8: 7, 9: 8, math.MaxInt: 7})
		r.walk(t, entry.Walk(7, r.read), 99)
		wantNoted(t, "a Back that isn't less", r, "ask 7", "see 7", "end 0")
	}
	r := backs(map[int]int{9: 4, 4: 6, 6: 3, 3: -1})
	r.walk(t, entry.Walk(9, r.read), 99)
	wantNoted(t, "a Back that is less than the first address alone", r, "ask 9", "see 9", "ask 4", "see 4", "end 0")
	r = backs(map[int]int{0: 0})
	r.walk(t, entry.Walk(0, r.read), 99)
	wantNoted(t, "a Back that is itself", r, "ask 0", "see 0", "end 0")
}

// Walk tells what read tells, right or not, of whatever stream.
func TestWalkTellsWhatIsRead(t *testing.T) {
	r := &records{log: map[int]api.Log{
		5: {Kind: -7, Id: api.Id{Client: -1, Birth: 1 << 40, Number: -3}, Stream: 99, Back: 4, Payload: some(70000)},
		4: {Stream: 1, Back: 3},
		3: {Kind: api.EntrySnap, Stream: 2, Back: -9},
	}}
	r.walk(t, entry.Walk(5, r.read), 99)
	wantNoted(t, "entries", r, "ask 5", "see 5", "ask 4", "see 4", "ask 3", "see 3", "end 0")
}

func TestWalkEndsWhereOneEnds(t *testing.T) {
	r := backs(map[int]int{9: 6, 6: 2, 2: -1})
	r.walk(t, entry.Walk(9, r.read), 2)
	wantNoted(t, "left behind the second one", r, "ask 9", "see 9", "ask 6", "see 6")
	r = backs(map[int]int{9: 6, 6: 2, 2: -1})
	r.walk(t, entry.Walk(9, r.read), 1)
	wantNoted(t, "left behind the first one", r, "ask 9", "see 9")
	r = backs(map[int]int{9: 6, 6: 2, 2: -1})
	r.walk(t, entry.Walk(9, r.read), 3)
	wantNoted(t, "left behind the last one", r, "ask 9", "see 9", "ask 6", "see 6", "ask 2", "see 2")
}

func TestWalkAsksNothingBeforeItIsRangedOver(t *testing.T) {
	r := backs(map[int]int{9: -1})
	entry.Walk(9, r.read)
	wantNoted(t, "not ranged over", r)
}

func TestWalkTwice(t *testing.T) {
	r := backs(map[int]int{9: 6, 6: -1, 4: -1})
	seq := entry.Walk(9, r.read)
	r.walk(t, seq, 1)
	r.walk(t, seq, 99)
	r.log[9] = api.Log{Back: 4}
	r.walk(t, seq, 99)
	wantNoted(t, "three times", r, "ask 9", "see 9", "ask 9", "see 9", "ask 6", "see 6", "end 0", "ask 9", "see 9", "ask 4", "see 4", "end 0")
}

func TestWalkWithinWalk(t *testing.T) {
	r := backs(map[int]int{5: 3, 3: -1})
	seq := entry.Walk(5, r.read)
	for at := range seq {
		r.note("out", at)
		r.walk(t, seq, 99)
	}
	inner := []string{"ask 5", "see 5", "ask 3", "see 3", "end 0"}
	wantNoted(t, "in itself", r, slices.Concat([]string{"ask 5", "out 5"}, inner, []string{"ask 3", "out 3"}, inner)...)
}

// Where the walk goes next is what was read, not what became of it in the hands of who ranges.
func TestWalkMemory(t *testing.T) {
	r := backs(map[int]int{5: 3, 3: -1})
	var first, second []byte
	for at, x := range entry.Walk(5, r.read) {
		x.Back, x.Kind = -1, 0
		first = strconv.AppendInt(first, int64(at), 10)
	}
	for at := range entry.Walk(5, r.read) {
		second = strconv.AppendInt(second, int64(at), 10)
	}
	if !bytes.Equal(first, second) || string(first) != "53" {
		t.Errorf("%q, %q", first, second)
	}
}

// P1 and P2

// wanted is what the document says of a walk, by the log's Backs.
func wanted(back map[int]int, at, most int) []string {
	noted := []string{}
	for at >= 0 {
		noted = append(noted, "ask "+strconv.Itoa(at))
		b, is := back[at]
		if !is {
			break
		}
		noted = append(noted, "see "+strconv.Itoa(at))
		if most--; most == 0 {
			return noted
		}
		if b >= at {
			break
		}
		at = b
	}
	return append(noted, "end 0")
}

func TestWalkAnyLogs(t *testing.T) {
	from := rand.New(rand.NewSource(72))
	for range 3000 {
		back := map[int]int{}
		for at := range 12 {
			if from.Intn(6) > 0 {
				back[at] = from.Intn(14) - 1 - from.Intn(at+1)
			}
		}
		at, most := from.Intn(14)-1, 1+from.Intn(6)
		r := backs(back)
		r.walk(t, entry.Walk(at, r.read), most)
		wantNoted(t, "any log", r, wanted(back, at, most)...)
	}
}
