package unit_test

import (
	"bytes"
	"math"
	"math/rand"
	"slices"
	"testing"

	"tideline/api"
	"tideline/unit"
)

// step is a call, done on a unit and by the document's words.
type step func(t testing.TB, p *pair) api.Errno

// steps gives calls that come to changes, and such that don't.
func steps() []step {
	return []step{
		func(t testing.TB, p *pair) api.Errno { return p.write(t, p.m.epoch(), 1, data("a")) },
		func(t testing.TB, p *pair) api.Errno { return p.write(t, p.m.epoch(), 2, junk) },
		func(t testing.TB, p *pair) api.Errno { return p.trim(t, p.m.epoch(), 2) },
		func(t testing.TB, p *pair) api.Errno { return p.seal(t, p.m.epoch()+1) },
		func(t testing.TB, p *pair) api.Errno { return p.promise(t, 1, ballot(1, 2)) },
		func(t testing.TB, p *pair) api.Errno { return p.promise(t, 1, ballot(2, 0)) },
		func(t testing.TB, p *pair) api.Errno { return p.accept(t, 1, ballot(1, 2), []byte("v")) },
		func(t testing.TB, p *pair) api.Errno { return p.accept(t, 1, ballot(2, 0), nil) },
		func(t testing.TB, p *pair) api.Errno { return p.write(t, 0, 1, junk) },
	}
}

// P9.5

// All runs of a few of these steps, on a device with few pages.
func TestAllSteps(t *testing.T) {
	const long = 4
	all := steps()
	count := 1
	for range long {
		count *= len(all)
	}
	for number := range count {
		p := newPair(t, 3)
		for rest, i := number, 0; i < long; i++ {
			all[rest%len(all)](t, p)
			rest /= len(all)
		}
		p.alike(t, number)
		p.again(t).alike(t, number)
	}
}

// With an error nothing changes, neither of the unit nor of what it is when it is opened again.
func TestErrorsChangeNothing(t *testing.T) {
	p := newPair(t, 5, pageOf(1, 3).with("three"), pageOf(3, 2), pageOf(4, 4), pageOf(5, 1, 7, 7), pageOf(6, 2, 7, 7).with("v"))
	u := p.u
	for range 2 {
		u.Read(3, 3)
		u.Write(4, 1, junk)
		u.Write(4, 3, junk)
		u.Write(4, 4, api.Cell{})
		u.Write(4, 4, junk)
		u.Write(4, -1, junk)
		u.Write(5, 4, junk)
		u.Trim(4, 9)
		u.Trim(5, 1)
		u.Trim(4, mostAddress+1)
		u.Seal(4)
		u.Seal(5)
		u.Seal(mostNumber + 1)
		u.Promise(1, ballot(7, 6))
		u.Promise(1, ballot(8, 0))
		u.Promise(0, ballot(8, 0))
		u.Accept(2, ballot(7, 6), nil)
		u.Accept(2, ballot(7, 7), []byte("w"))
		u.Accept(2, ballot(-1, 7), nil)
		p.alike(t, "behind errors")
		p = p.again(t)
	}
}

// What was answered with OK lasts, whatever a crash picks.
func TestCrashBehindCalls(t *testing.T) {
	for _, picks := range [][]byte{nil, {0}, {1}, {2}, {2, 0, 1}} {
		p := newPair(t, 12)
		for _, one := range steps() {
			one(t, p)
			p.d.Crash(picks)
			p.alike(t, picks)
			p = p.again(t)
			p.alike(t, picks)
		}
	}
}

// A call on its way has written its page, which doesn't last yet: all or nothing.
func TestCrashOfACallOnItsWay(t *testing.T) {
	for ahead, first := range steps() {
		for number, one := range steps() {
			p := newPair(t, 9)
			first(t, p)
			was := p.twin(t)
			if one(t, p) != api.OK || p.d.Free() == was.d.Free() {
				continue
			}
			pages := p.d.Pages()
			for pick := range byte(3) {
				on := was.twin(t)
				on.d.Append(pages[len(pages)-1])
				on.d.Crash([]byte{pick})
				switch pick {
				case 1:
					on.m = p.m
				case 2:
					on.m.free--
				}
				on.again(t).alike(t, [3]int{ahead, number, int(pick)})
			}
		}
	}
}

// A torn page takes room, and nothing else: what was on its way may be done again.
func TestGoOnBehindATornPage(t *testing.T) {
	p := newPair(t, 4)
	p.write(t, 0, 1, data("a"))
	p.d.Append(pageOf(1, 2).with("torn").bytes())
	p.d.Crash([]byte{2})
	p.m.free--
	p = p.again(t)
	wantError(t, "Read", p.read(t, 0, 2), api.ErrUnwritten)
	wantError(t, "Write", p.write(t, 0, 2, data("again")), api.OK)
	wantError(t, "Write", p.write(t, 0, 3, junk), api.OK)
	wantError(t, "Write", p.write(t, 0, 4, junk), api.ErrFull)
	p.again(t).alike(t, "behind a torn page")
}

func TestOpenChangesNothing(t *testing.T) {
	d := newDevice(t, 5, pageOf(4, 1))
	d.Sync()
	d.Append(pageOf(2, 7).bytes())
	for range 2 {
		wantNumbers(t, open(t, d), 1, 0, 8)
		wantPages(t, d, pageOf(4, 1).bytes(), pageOf(2, 7).bytes())
	}
	d.Crash(nil)
	wantPages(t, d, pageOf(4, 1).bytes())
	wantNumbers(t, open(t, d), 1, 0, 0)

	d.Append([]byte("wrong"))
	if _, e := unit.Open(d); e != api.ErrForm {
		t.Errorf("%d", e)
	}
	d.Crash(nil)
	wantPages(t, d, pageOf(4, 1).bytes())
}

// What changes nothing syncs nothing that a page ahead of it left open; what changes something does.
func TestOpenThenSync(t *testing.T) {
	d := newDevice(t, 5, pageOf(2, 7))
	u := open(t, d)
	u.Write(0, 8, junk)
	d.Crash(nil)
	wantPages(t, d, pageOf(2, 7).bytes(), pageOf(2, 8).bytes())
}

func TestAskingChangesNothing(t *testing.T) {
	p := newPair(t, 9, someRightPages()[:4]...)
	for range 3 {
		p.alike(t, "asked")
	}
}

// Rule 4: nothing is shared.

func TestNothingIsShared(t *testing.T) {
	spoil := func(b []byte) {
		for i := range b {
			b[i] ^= 255
		}
		_ = append(b, 99)
	}
	d := newDevice(t, 9, pageOf(1, 1).with("one"), pageOf(6, 1, 1, 1).with("value"))
	u := open(t, d)
	for range 2 {
		for at, want := range map[int]string{1: "one", 2: "two"} {
			given := []byte(want)
			there, _ := u.Write(0, at, api.Cell{What: api.CellData, Data: given})
			spoil(given)
			spoil(there.Data)
			x, _ := u.Read(0, at)
			spoil(x.Data)
			wantCell(t, u, at, data(want))
		}
		for n, want := range map[int]string{1: "value", 2: "other"} {
			given := []byte(want)
			u.Accept(n, ballot(1, 1), given)
			spoil(given)
			_, value, _ := u.Promise(n, ballot(1, 1))
			spoil(value)
			wantInstance(t, u, d, n, ballot(1, 1), ballot(1, 1), want)
		}
		u = open(t, d)
	}
}

// P1, P2

func TestAnyArguments(t *testing.T) {
	numbers := []int{math.MinInt, math.MinInt + 1, -mostAddress, -1, 0, 1, 2, mostNumber, mostNumber + 1, mostAddress, mostAddress + 1, math.MaxInt}
	p := newPair(t, 400)
	for _, a := range numbers {
		for _, b := range numbers {
			p.read(t, a, b)
			for _, what := range numbers {
				p.write(t, a, b, api.Cell{What: what})
				p.promise(t, a, ballot(b, what))
				p.accept(t, a, ballot(b, what), []byte("v"))
			}
			p.trim(t, a, b)
		}
	}
	for _, a := range numbers {
		p.seal(t, a)
	}
	p.again(t).alike(t, "any arguments")
}

// script tells one byte behind the other; noughts, when it is at its end.
type script []byte

func (s *script) one() int {
	if len(*s) == 0 {
		return 0
	}
	b := (*s)[0]
	*s = (*s)[1:]
	return int(b)
}

func (s *script) of(numbers ...int) int { return numbers[s.one()%len(numbers)] }

func (s *script) bytes() []byte { return bytes.Repeat([]byte{byte(s.one())}, s.of(0, 1, 2, 3)) }

func (s *script) address() int {
	return s.of(0, 1, 2, 3, 4, 5, 6, 7, 40, mostAddress-1, mostAddress, mostAddress+1, -1)
}

func (s *script) instance() int { return s.of(1, 2, 1, 2, mostNumber, 0, mostNumber+1) }

func (s *script) ballot() api.Ballot {
	return ballot(s.of(0, 1, 2, 3, 4, mostNumber, -1), s.of(0, 1, 2, mostNumber, mostNumber+1))
}

func (s *script) low(was int) int {
	if s.one()%8 == 0 {
		return s.address()
	}
	return was + s.of(-1, 0, 1, 2)
}

func (s *script) epoch(was int) int { return was + s.of(0, 0, 0, 0, 0, 0, 1, -1) }

func (s *script) cell() api.Cell {
	x := api.Cell{What: s.of(1, 1, 1, 2, 2, 2, 0, 3)}
	if x.What != api.CellJunk || s.one()%16 == 0 {
		x.Data = s.bytes()
	}
	return x
}

// page gives a page that no call may have written, and mostly tells something.
func (s *script) page() page {
	switch by := byte(s.of(1, 2, 3, 4, 5, 6)); by {
	case 1:
		return pageOf(by, s.address()).with(string(s.bytes()))
	case 2, 3:
		return pageOf(by, s.address())
	case 4:
		return pageOf(by, s.of(0, 1, 2, 3, mostNumber, mostNumber+1))
	case 5:
		b := s.ballot()
		return pageOf(by, s.instance(), b.Round, b.Who)
	default:
		b := s.ballot()
		return pageOf(by, s.instance(), b.Round, b.Who).with(string(s.bytes()))
	}
}

// doOne does a call.
func (s *script) doOne(t testing.TB, p *pair) {
	t.Helper()
	epoch := s.epoch(p.m.epoch())
	switch s.one() % 12 {
	case 0, 1, 2, 3:
		p.write(t, epoch, s.address(), s.cell())
	case 4:
		p.trim(t, epoch, s.low(p.m.low()))
	case 5:
		p.read(t, epoch, s.address())
	case 6:
		p.seal(t, p.m.epoch()+s.of(1, 2, 0, -1, mostNumber))
	case 7, 8:
		p.promise(t, s.instance(), s.ballot())
	default:
		p.accept(t, s.instance(), s.ballot(), s.bytes())
	}
}

// crash lets the device crash, some pages being on their way, and opens it again: what the document says of these pages is what they tell.
func (s *script) crash(t testing.TB, p *pair) *pair {
	t.Helper()
	picks := []byte{byte(s.one()), byte(s.one()), byte(s.one())}
	var fresh []page
	for range s.of(0, 1, 2, 3) {
		x := s.page()
		if _, is := readPage(x.bytes()); is && p.d.Append(x.bytes()) == api.OK {
			fresh = append(fresh, x)
		}
	}
	p.d.Crash(picks)
	for i, x := range fresh {
		if picks[i]%3 == 1 {
			p.m.pages = append(p.m.pages, x)
		}
	}
	p.m.free = p.d.Free() // layer 8 tells it
	return p.again(t)
}

// goThrough does what the bytes say, and looks behind each step whether the unit is what the document says.
func goThrough(t testing.TB, b []byte) {
	t.Helper()
	s := script(b)
	pages := 1 + s.one()%40
	p := newPair(t, pages)
	for len(s) > 0 {
		if s.one()%16 == 0 {
			p = s.crash(t, p)
		} else {
			s.doOne(t, p)
		}
		p.alike(t, "a step")
	}
	p.again(t).alike(t, "opened again")
}

func someBytes(seed int64, size int) []byte {
	b := make([]byte, size)
	rand.New(rand.NewSource(seed)).Read(b)
	return b
}

func TestAnySteps(t *testing.T) {
	for seed := range int64(1500) {
		goThrough(t, someBytes(seed, 250))
	}
}

func FuzzSteps(f *testing.F) {
	for seed := range int64(10) {
		f.Add(someBytes(seed, 80))
	}
	f.Add([]byte{})
	f.Fuzz(func(t *testing.T, b []byte) {
		goThrough(t, b)
	})
}

// openAny opens a device with such pages, and looks whether it is what the document says.
func openAny(t testing.TB, all ...[]byte) {
	t.Helper()
	d := newDevice(t, len(all)+1)
	m := newModel(len(all) + 1)
	right := true
	for _, b := range all {
		d.Append(b)
		p, is := readPage(b)
		right = right && is
		m.add(p)
	}
	if right {
		(&pair{d, open(t, d), m}).alike(t, "any pages")
	} else if u, e := unit.Open(d); u != nil || e != api.ErrForm {
		t.Fatalf("%v: %v, %d", all, u, e)
	}
}

func TestOpenAnyPages(t *testing.T) {
	for seed := range int64(3000) {
		s := script(someBytes(seed, 200))
		var all [][]byte
		for len(s) > 0 {
			b := s.page().bytes()
			if _, is := readPage(b); is || seed%8 == 0 {
				all = append(all, b)
			}
		}
		openAny(t, all...)
	}
}

// Right pages with one byte of them turned, one more, one less.
func TestOpenSpoiledPages(t *testing.T) {
	for _, p := range someRightPages() {
		b := p.bytes()
		for i := range min(len(b), 40) {
			for _, by := range []byte{1, 2, 3, 4, 7, 128, 255} {
				turned := slices.Clone(b)
				turned[i] ^= by
				openAny(t, turned)
			}
			openAny(t, slices.Delete(slices.Clone(b), i, i+1))
			openAny(t, slices.Insert(slices.Clone(b), i, 0))
		}
	}
}

func FuzzOpen(f *testing.F) {
	for _, p := range someRightPages() {
		f.Add(p.bytes())
	}
	f.Fuzz(func(t *testing.T, b []byte) {
		openAny(t, b)
		openAny(t, pageOf(2, 3).bytes(), b, pageOf(3, 2).bytes())
	})
}

func TestAgain(t *testing.T) {
	told := func() ([][]byte, []int) {
		p := newPair(t, 30)
		s := script(someBytes(7, 120))
		for len(s) > 0 {
			s.doOne(t, p)
		}
		return p.d.Pages(), []int{p.u.Epoch(), p.u.Low(), p.u.Tail()}
	}
	pages, numbers := told()
	pagesAgain, numbersAgain := told()
	if !slices.EqualFunc(pages, pagesAgain, bytes.Equal) || !slices.Equal(numbers, numbersAgain) {
		t.Errorf("%v, %v, then %v, %v", pages, numbers, pagesAgain, numbersAgain)
	}
}
