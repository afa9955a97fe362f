package unit_test

import (
	"bytes"
	"math"
	"slices"
	"strings"
	"testing"

	"tideline/api"
	"tideline/device"
	"tideline/unit"
)

func data(s string) api.Cell { return api.Cell{What: api.CellData, Data: []byte(s)} }

var junk = api.Cell{What: api.CellJunk}

func ballot(round, who int) api.Ballot { return api.Ballot{Round: round, Who: who} }

func wantError(t *testing.T, what string, got, want api.Errno) {
	t.Helper()
	if got != want {
		t.Errorf("%s: %d, not %d", what, got, want)
	}
}

func wantCell(t *testing.T, u *unit.Unit, at int, want api.Cell) {
	t.Helper()
	if x, e := u.Read(u.Epoch(), at); e != api.OK || !sameCell(x, want) {
		t.Errorf("Read at %d: %v, %d, not %v", at, x, e, want)
	}
}

func wantNoCell(t *testing.T, u *unit.Unit, at int, want api.Errno) {
	t.Helper()
	if x, e := u.Read(u.Epoch(), at); e != want || x.What != 0 || x.Data != nil {
		t.Errorf("Read at %d: %v, %d, not %d", at, x, e, want)
	}
}

func wantNumbers(t *testing.T, u *unit.Unit, epoch, low, tail int) {
	t.Helper()
	if u.Epoch() != epoch || u.Low() != low || u.Tail() != tail {
		t.Errorf("epoch %d, low %d, tail %d, not %d, %d, %d", u.Epoch(), u.Low(), u.Tail(), epoch, low, tail)
	}
}

// wantInstance looks at what was promised and accepted (which changes nothing, if it is right).
func wantInstance(t *testing.T, u *unit.Unit, d *device.Device, n int, promised, accepted api.Ballot, value string) {
	t.Helper()
	free := d.Free()
	b, v, e := u.Promise(n, promised)
	if e != api.OK || d.Free() != free || b != accepted || string(v) != value {
		t.Errorf("instance %d, %v: %v, %q, %d, %d pages more", n, promised, b, v, e, free-d.Free())
	}
}

// wantPages looks what the device's pages are, bytes by bytes.
func wantPages(t *testing.T, d *device.Device, want ...[]byte) {
	t.Helper()
	if got := d.Pages(); !slices.EqualFunc(got, want, bytes.Equal) {
		t.Errorf("pages %v, not %v", got, want)
	}
}

// P9.1

func TestOpenNothing(t *testing.T) {
	d := newDevice(t, 3)
	u := open(t, d)
	wantNumbers(t, u, 0, 0, 0)
	wantNoCell(t, u, 0, api.ErrUnwritten)
	wantNoCell(t, u, mostAddress, api.ErrUnwritten)
	wantInstance(t, u, d, 1, ballot(0, 0), ballot(0, 0), "")
	wantInstance(t, u, d, mostNumber, ballot(0, 0), ballot(0, 0), "")
	wantPages(t, d)
}

func TestOpenPages(t *testing.T) {
	d, _ := device.New(9)
	for _, b := range [][]byte{
		{1, 0, 0, 0, 0, 0, 0, 1, 2, 0, 0, 0, 2, 'a', 'b'},
		{2, 0, 0, 0, 1, 0, 0, 0, 0},
		{3, 0, 0, 0, 0, 0, 0, 0, 9},
		{4, 0, 0, 0, 0, 0, 0, 0, 7},
		{5, 0, 0, 0, 0, 0, 0, 0, 3, 0, 0, 0, 0, 0, 0, 0, 4, 0, 0, 0, 0, 0, 0, 0, 5},
		{6, 0, 0, 0, 0, 0, 0, 0, 4, 0, 0, 0, 0, 0, 0, 1, 0, 0, 0, 0, 0, 127, 0, 0, 0, 0, 0, 0, 1, 'v'},
	} {
		d.Append(b)
	}
	u := open(t, d)
	wantNumbers(t, u, 7, 9, mostAddress+1)
	wantCell(t, u, 258, data("ab"))
	wantCell(t, u, mostAddress, junk)
	wantNoCell(t, u, 9, api.ErrUnwritten)
	wantNoCell(t, u, 8, api.ErrTrimmed)
	wantInstance(t, u, d, 3, ballot(4, 5), ballot(0, 0), "")
	wantInstance(t, u, d, 4, ballot(256, 127<<24), ballot(256, 127<<24), "v")
	wantInstance(t, u, d, 5, ballot(0, 0), ballot(0, 0), "")
}

// wrongPages gives bytes that tell nothing.
func wrongPages() [][]byte {
	const justBeyond = mostNumber + 1
	all := [][]byte{nil, {}, {0}, {1}, {2}, {6}, {7}, {255}, bytes.Repeat([]byte{0}, 9), bytes.Repeat([]byte{7}, 9)}
	for _, p := range someRightPages() {
		b := p.bytes()
		for _, by := range []byte{0, 7, 128 + b[0], 255} {
			all = append(all, append([]byte{by}, b[1:]...))
		}
		for n := range min(len(b), 60) {
			all = append(all, b[:n])
		}
		all = append(all, append(slices.Clone(b), 0), append(slices.Clone(b), b...))
	}
	for _, by := range []byte{1, 2, 3} {
		for _, n := range []int{mostAddress + 1, mostAddress * 2, math.MaxInt, -1, math.MinInt} {
			all = append(all, pageOf(by, n).bytes())
		}
	}
	for _, n := range []int{justBeyond, mostAddress, math.MaxInt, -1, math.MinInt} {
		all = append(all, pageOf(4, n).bytes())
		for _, by := range []byte{5, 6} {
			all = append(all, pageOf(by, n, 1, 1).bytes(), pageOf(by, 1, n, 1).bytes(), pageOf(by, 1, 1, n).bytes())
		}
	}
	for _, by := range []byte{5, 6} {
		all = append(all, pageOf(by, 0, 1, 1).bytes(), pageOf(by, 0, 0, 0).bytes())
	}
	tooMuch := pageOf(1, 1).with(strings.Repeat("d", mostData+1))
	return append(all, tooMuch.bytes(), pageOf(6, 1, 1, 1).with(strings.Repeat("v", mostValue+1)).bytes())
}

func someRightPages() []page {
	return []page{
		pageOf(1, 0), pageOf(1, 5).with("abc"), pageOf(1, mostAddress).with(strings.Repeat("d", mostData)),
		pageOf(2, 0), pageOf(2, mostAddress),
		pageOf(3, 0), pageOf(3, mostAddress),
		pageOf(4, 0), pageOf(4, mostNumber),
		pageOf(5, 1, 0, 0), pageOf(5, mostNumber, mostNumber, mostNumber),
		pageOf(6, 1, 0, 0), pageOf(6, mostNumber, mostNumber, mostNumber).with(strings.Repeat("v", mostValue)),
	}
}

func TestOpenForm(t *testing.T) {
	for _, b := range wrongPages() {
		for ahead := range 2 {
			for behind := range 2 {
				d := newDevice(t, 9, slices.Repeat([]page{pageOf(4, 1)}, ahead)...)
				d.Append(b)
				for range behind {
					d.Append(pageOf(4, 2).bytes())
				}
				if u, e := unit.Open(d); u != nil || e != api.ErrForm {
					t.Errorf("%v (%d ahead of it, %d behind): %v, %d", b[:min(len(b), 40)], ahead, behind, u, e)
				}
			}
		}
	}
}

func TestOpenRightPages(t *testing.T) {
	for _, p := range someRightPages() {
		newPair(t, 9, p).alike(t, p)
		newPair(t, 9, append(someRightPages()[:5], p)...).alike(t, p)
	}
}

func TestOpenPassesOverOtherPages(t *testing.T) {
	d := newDevice(t, 9, pageOf(4, 3))
	d.Sync()
	for _, p := range []page{pageOf(4, 9), pageOf(7, 1), pageOf(2, 5), pageOf(4, 8)} {
		d.Append(p.bytes())
	}
	d.Crash([]byte{2, 2, 1, 0}) // torn, torn, whole, empty
	u := open(t, d)
	wantNumbers(t, u, 3, 0, 6)
	wantCell(t, u, 5, junk)
	if d.Free() != 5 {
		t.Errorf("%d free", d.Free())
	}
}

func TestOpenTakesPagesAsTheyStand(t *testing.T) {
	p := newPair(t, 20,
		pageOf(1, 5).with("first"), pageOf(2, 7), pageOf(1, 8).with("eight"),
		pageOf(2, 5),
		pageOf(1, 7).with("behind junk"),
		pageOf(3, 9), pageOf(1, 6).with("below"), pageOf(3, 6),
		pageOf(4, 9), pageOf(4, 2),
		pageOf(6, 1, 5, 5).with("value"), pageOf(5, 1, 7, 0), pageOf(5, 1, 2, 2),
		pageOf(6, 2, 5, 5).with("value"), pageOf(6, 2, 4, 9).with("less"),
		pageOf(6, 3, 5, 5).with("value"), pageOf(6, 3, 0, 0), pageOf(5, 4, 0, 0),
	)
	u, d := p.u, p.d
	wantNumbers(t, u, 2, 6, 9)
	wantNoCell(t, u, 5, api.ErrTrimmed)
	wantCell(t, u, 6, data("below"))
	wantCell(t, u, 7, data("behind junk"))
	wantCell(t, u, 8, data("eight"))
	wantInstance(t, u, d, 1, ballot(2, 2), ballot(5, 5), "value")
	wantInstance(t, u, d, 2, ballot(4, 9), ballot(4, 9), "less")
	wantInstance(t, u, d, 3, ballot(0, 0), ballot(0, 0), "")
	p.alike(t, "as they stand")
}

func TestOpenLowAgain(t *testing.T) {
	d := newDevice(t, 9, pageOf(1, 5).with("five"), pageOf(3, mostAddress), pageOf(3, 0))
	u := open(t, d)
	wantNumbers(t, u, 0, 0, 6)
	wantCell(t, u, 5, data("five"))
	if _, e := u.Write(0, 5, junk); e != api.ErrWritten {
		t.Errorf("%d", e)
	}
}

func TestTail(t *testing.T) {
	for _, c := range []struct {
		tail  int
		pages []page
	}{
		{1, []page{pageOf(2, 0)}},
		{9, []page{pageOf(2, 8), pageOf(1, 3)}},
		{8, []page{pageOf(3, 8)}},
		{8, []page{pageOf(2, 6), pageOf(3, 8)}},
		{8, []page{pageOf(2, 7), pageOf(3, 8)}},
		{9, []page{pageOf(2, 8), pageOf(3, 8)}},
		{9, []page{pageOf(3, 9), pageOf(2, 3)}},
		{4, []page{pageOf(3, 9), pageOf(3, 4)}},
		{6, []page{pageOf(2, 5), pageOf(3, 9), pageOf(3, 0)}},
		{0, []page{pageOf(3, 9), pageOf(3, 0), pageOf(5, 30, 1, 1), pageOf(4, 20)}},
		{mostAddress, []page{pageOf(3, mostAddress)}},
		{mostAddress + 1, []page{pageOf(2, mostAddress), pageOf(3, mostAddress)}},
	} {
		if u := open(t, newDevice(t, 5, c.pages...)); u.Tail() != c.tail {
			t.Errorf("%v: %d, not %d", c.pages, u.Tail(), c.tail)
		}
	}
}

func TestTailOfCalls(t *testing.T) {
	u := open(t, newDevice(t, 9))
	u.Write(0, 5, data("a"))
	wantNumbers(t, u, 0, 0, 6)
	u.Write(0, 2, junk)
	wantNumbers(t, u, 0, 0, 6)
	u.Trim(0, 6)
	wantNumbers(t, u, 0, 6, 6)
	u.Trim(0, 8)
	wantNumbers(t, u, 0, 8, 8)
	u.Write(0, mostAddress, junk)
	wantNumbers(t, u, 0, 8, mostAddress+1)
}

// P9.2

func TestPagesOfCalls(t *testing.T) {
	d := newDevice(t, 9)
	u := open(t, d)
	u.Write(0, 258, data("ab"))
	u.Write(0, mostAddress, junk)
	u.Trim(0, 9)
	u.Seal(7)
	u.Promise(3, ballot(4, 5))
	u.Accept(3, ballot(256, 127<<24), []byte("v"))
	wantPages(t, d,
		[]byte{1, 0, 0, 0, 0, 0, 0, 1, 2, 0, 0, 0, 2, 'a', 'b'},
		[]byte{2, 0, 0, 0, 1, 0, 0, 0, 0},
		[]byte{3, 0, 0, 0, 0, 0, 0, 0, 9},
		[]byte{4, 0, 0, 0, 0, 0, 0, 0, 7},
		[]byte{5, 0, 0, 0, 0, 0, 0, 0, 3, 0, 0, 0, 0, 0, 0, 0, 4, 0, 0, 0, 0, 0, 0, 0, 5},
		[]byte{6, 0, 0, 0, 0, 0, 0, 0, 3, 0, 0, 0, 0, 0, 0, 1, 0, 0, 0, 0, 0, 127, 0, 0, 0, 0, 0, 0, 1, 'v'})
}

func TestWriteOnce(t *testing.T) {
	p := newPair(t, 9)
	for at, x := range map[int]api.Cell{0: data(""), 1: data("a"), 7: junk, mostAddress: data("last")} {
		wantNoCell(t, p.u, at, api.ErrUnwritten)
		wantError(t, "Write", p.write(t, 0, at, x), api.OK)
		wantCell(t, p.u, at, x)
		for _, y := range []api.Cell{x, junk, data("other")} {
			if there, e := p.u.Write(0, at, y); e != api.ErrWritten || !sameCell(there, x) {
				t.Errorf("at %d, again: %v, %d", at, there, e)
			}
		}
		wantCell(t, p.u, at, x)
	}
	p.alike(t, "written")
	p.again(t).alike(t, "opened again")
	if p.d.Free() != 5 {
		t.Errorf("%d free", p.d.Free())
	}
}

func TestWriteArg(t *testing.T) {
	p := newPair(t, 9)
	for _, x := range []api.Cell{
		{}, {What: api.CellGone}, {What: -1}, {What: 4}, {What: math.MaxInt}, {What: math.MinInt}, {What: 257}, {What: 258},
		{What: api.CellNone, Data: []byte("a")}, {What: api.CellGone, Data: []byte("a")},
		{What: api.CellJunk, Data: []byte{0}}, {What: api.CellJunk, Data: make([]byte, mostData+1)},
		{What: api.CellData, Data: make([]byte, mostData+1)}, {What: api.CellData, Data: make([]byte, 2*mostData)},
	} {
		wantError(t, "a cell that may not be", p.write(t, 0, 3, x), api.ErrArg)
	}
	wantError(t, "the most bytes", p.write(t, 0, 3, api.Cell{What: api.CellData, Data: bytes.Repeat([]byte{9}, mostData)}), api.OK)
	wantError(t, "junk with a list without elements", p.write(t, 0, 4, api.Cell{What: api.CellJunk, Data: []byte{}}), api.OK)
	p.alike(t, "written")
	p.again(t).alike(t, "opened again")
}

// The errors come in the document's order.
func TestCellErrors(t *testing.T) {
	p := newPair(t, 4, pageOf(4, 2), pageOf(3, 5), pageOf(1, 6).with("six"), pageOf(2, 7))
	bad := api.Cell{What: api.CellGone}
	for _, epoch := range []int{0, 1, 3, -2, math.MinInt, math.MaxInt} {
		for _, at := range []int{-1, 0, 5, 6, mostAddress + 1} {
			wantError(t, "Read", p.read(t, epoch, at), api.ErrSealed)
			wantError(t, "Write", p.write(t, epoch, at, bad), api.ErrSealed)
			wantError(t, "Trim", p.trim(t, epoch, at), api.ErrSealed)
		}
	}
	for _, at := range []int{-1, math.MinInt, mostAddress + 1, math.MaxInt} {
		wantError(t, "Read", p.read(t, 2, at), api.ErrRange)
		wantError(t, "Write", p.write(t, 2, at, bad), api.ErrRange)
		wantError(t, "Write", p.write(t, 2, at, junk), api.ErrRange)
		wantError(t, "Trim", p.trim(t, 2, at), api.ErrRange)
	}
	for _, at := range []int{0, 4, 5, 6, 7, mostAddress} {
		wantError(t, "Write", p.write(t, 2, at, bad), api.ErrArg)
	}
	for at, want := range map[int]api.Errno{0: api.ErrTrimmed, 4: api.ErrTrimmed, 5: api.ErrUnwritten, 6: api.OK, 7: api.OK, mostAddress: api.ErrUnwritten} {
		wantError(t, "Read", p.read(t, 2, at), want)
	}
	for at, want := range map[int]api.Errno{0: api.ErrTrimmed, 4: api.ErrTrimmed, 5: api.ErrFull, 6: api.ErrWritten, 7: api.ErrWritten, mostAddress: api.ErrFull} {
		wantError(t, "Write", p.write(t, 2, at, junk), want)
	}
	for low, want := range map[int]api.Errno{0: api.OK, 4: api.OK, 5: api.OK, 6: api.ErrFull, mostAddress: api.ErrFull} {
		wantError(t, "Trim", p.trim(t, 2, low), want)
	}
	p.alike(t, "behind errors")
}

func TestTrim(t *testing.T) {
	p := newPair(t, 12)
	for at := range 6 {
		p.write(t, 0, at, data("x"))
	}
	wantError(t, "to nothing", p.trim(t, 0, 0), api.OK)
	p.alike(t, "to nothing")
	wantError(t, "to the middle", p.trim(t, 0, 3), api.OK)
	wantNoCell(t, p.u, 2, api.ErrTrimmed)
	wantCell(t, p.u, 3, data("x"))
	p.alike(t, "to the middle")
	for _, low := range []int{0, 2, 3} {
		wantError(t, "not above", p.trim(t, 0, low), api.OK)
	}
	p.alike(t, "not above")
	wantError(t, "Write below", p.write(t, 0, 2, junk), api.ErrTrimmed)
	wantError(t, "beyond the tail", p.trim(t, 0, 900), api.OK)
	wantError(t, "Write at the low address", p.write(t, 0, 900, junk), api.OK)
	p.alike(t, "beyond the tail")
	wantError(t, "to the last address", p.trim(t, 0, mostAddress), api.OK)
	wantError(t, "Write there", p.write(t, 0, mostAddress, data("last")), api.OK)
	p.alike(t, "to the last address")
	p.again(t).alike(t, "opened again")
}

// Cells go when few addresses are trimmed, and when many are.
func TestTrimManyCells(t *testing.T) {
	p := newPair(t, 2000)
	for at := range 600 {
		p.write(t, 0, at*3, junk)
	}
	for _, low := range []int{1, 2, 3, 4, 300, 301, 1200, 1790, 1797, 1798, 5000, mostAddress} {
		wantError(t, "Trim", p.trim(t, 0, low), api.OK)
		p.alike(t, low)
	}
	p.again(t).alike(t, "opened again")
}

// P9.3

func TestSeal(t *testing.T) {
	p := newPair(t, 4)
	for _, c := range []struct {
		epoch int
		want  api.Errno
	}{
		{0, api.ErrSealed}, {-1, api.ErrSealed}, {math.MinInt, api.ErrSealed},
		{mostNumber + 1, api.ErrArg}, {math.MaxInt, api.ErrArg},
		{1, api.OK}, {1, api.ErrSealed}, {0, api.ErrSealed},
		{5, api.OK}, {4, api.ErrSealed},
		{mostNumber, api.OK}, {mostNumber, api.ErrSealed}, {mostNumber + 1, api.ErrArg},
	} {
		wantError(t, "Seal", p.seal(t, c.epoch), c.want)
		p.alike(t, c)
	}
	p.again(t).alike(t, "opened again")
}

func TestSealFull(t *testing.T) {
	p := newPair(t, 1, pageOf(4, 3))
	wantError(t, "not above", p.seal(t, 3), api.ErrSealed)
	wantError(t, "too great", p.seal(t, mostNumber+1), api.ErrArg)
	wantError(t, "above", p.seal(t, 4), api.ErrFull)
	p.alike(t, "full")
}

func TestSealShutsAnEpoch(t *testing.T) {
	p := newPair(t, 9)
	p.write(t, 0, 1, data("a"))
	p.seal(t, 4)
	wantError(t, "Read", p.read(t, 0, 1), api.ErrSealed)
	wantError(t, "Write", p.write(t, 0, 2, junk), api.ErrSealed)
	wantError(t, "Trim", p.trim(t, 0, 1), api.ErrSealed)
	wantCell(t, p.u, 1, data("a"))
	wantError(t, "Write", p.write(t, 4, 2, junk), api.OK)
	wantError(t, "Promise", p.promise(t, 1, ballot(1, 1)), api.OK)
}

// P9.4

func TestAcceptorArg(t *testing.T) {
	p := newPair(t, 9, pageOf(5, 2, 9, 9))
	numbers := []int{-1, math.MinInt, mostNumber + 1, 1 << 32, math.MaxInt}
	for _, n := range append(numbers, 0) {
		wantError(t, "Promise", p.promise(t, n, ballot(1, 1)), api.ErrArg)
		wantError(t, "Accept", p.accept(t, n, ballot(1, 1), nil), api.ErrArg)
	}
	for _, n := range []int{1, 2} { // what was promised of 2 is greater
		for _, x := range numbers {
			for _, b := range []api.Ballot{ballot(x, 0), ballot(0, x), ballot(x, x)} {
				wantError(t, "Promise", p.promise(t, n, b), api.ErrArg)
				wantError(t, "Accept", p.accept(t, n, b, nil), api.ErrArg)
			}
		}
		wantError(t, "a great value", p.accept(t, n, ballot(1, 1), make([]byte, mostValue+1)), api.ErrArg)
	}
	wantError(t, "the most bytes", p.accept(t, 1, ballot(1, 1), bytes.Repeat([]byte{7}, mostValue)), api.OK)
	wantError(t, "the greatest numbers", p.accept(t, mostNumber, ballot(mostNumber, mostNumber), nil), api.OK)
	wantError(t, "the least numbers", p.accept(t, 3, ballot(0, 0), []byte("v")), api.OK)
	p.alike(t, "accepted")
	p.again(t).alike(t, "opened again")
}

func TestAcceptorBusy(t *testing.T) {
	for _, was := range []page{pageOf(5, 1, 5, 5), pageOf(6, 1, 5, 5).with("v")} {
		for _, b := range []api.Ballot{ballot(5, 4), ballot(4, 5), ballot(4, 6), ballot(4, mostNumber), ballot(0, 0), ballot(5, 0)} {
			p := newPair(t, 9, was)
			wantError(t, "Promise of a lesser one", p.promise(t, 1, b), api.ErrBusy)
			wantError(t, "Accept of a lesser one", p.accept(t, 1, b, nil), api.ErrBusy)
			p.alike(t, b)
			wantError(t, "another instance", p.promise(t, 2, b), api.OK)
		}
		for _, b := range []api.Ballot{ballot(5, 5), ballot(5, 6), ballot(6, 0), ballot(mostNumber, mostNumber)} {
			p := newPair(t, 9, was)
			wantError(t, "Promise of no lesser one", p.twin(t).promise(t, 1, b), api.OK)
			wantError(t, "Accept of no lesser one", p.accept(t, 1, b, []byte("w")), api.OK)
			wantInstance(t, p.u, p.d, 1, b, b, "w")
			p.alike(t, b)
		}
	}
}

func TestPromise(t *testing.T) {
	p := newPair(t, 9)
	u, d := p.u, p.d
	wantError(t, "the first ballot", p.promise(t, 1, ballot(0, 0)), api.OK)
	wantPages(t, d)
	wantError(t, "Promise", p.promise(t, 1, ballot(2, 3)), api.OK)
	wantInstance(t, u, d, 1, ballot(2, 3), ballot(0, 0), "")
	wantError(t, "Accept", p.accept(t, 1, ballot(2, 3), []byte("a")), api.OK)
	wantInstance(t, u, d, 1, ballot(2, 3), ballot(2, 3), "a")
	wantError(t, "Promise", p.promise(t, 1, ballot(4, 0)), api.OK)
	wantInstance(t, u, d, 1, ballot(4, 0), ballot(2, 3), "a")
	wantError(t, "Accept again", p.accept(t, 1, ballot(4, 0), []byte("b")), api.OK)
	wantError(t, "Accept of the same ballot", p.accept(t, 1, ballot(4, 0), []byte("c")), api.OK)
	wantInstance(t, u, d, 1, ballot(4, 0), ballot(4, 0), "c")
	wantInstance(t, u, d, 2, ballot(0, 0), ballot(0, 0), "")
	if d.Free() != 4 {
		t.Errorf("%d free", d.Free())
	}
	p.again(t).alike(t, "opened again")
}

func TestAcceptorFull(t *testing.T) {
	p := newPair(t, 2, pageOf(5, 1, 5, 5), pageOf(6, 2, 4, 4).with("v"))
	wantError(t, "Promise of the one that was promised", p.promise(t, 1, ballot(5, 5)), api.OK)
	wantError(t, "Promise of the one that was accepted", p.promise(t, 2, ballot(4, 4)), api.OK)
	wantError(t, "Promise of the first one", p.promise(t, 3, ballot(0, 0)), api.OK)
	for n, b := range map[int]api.Ballot{1: ballot(5, 6), 2: ballot(5, 0), 3: ballot(0, 1)} {
		wantError(t, "Promise", p.promise(t, n, b), api.ErrFull)
		wantError(t, "Accept", p.accept(t, n, b, []byte("w")), api.ErrFull)
	}
	wantError(t, "Accept of the one that was accepted", p.accept(t, 2, ballot(4, 4), []byte("v")), api.ErrFull)
	wantError(t, "Accept of the first one", p.accept(t, 3, ballot(0, 0), nil), api.ErrFull)
	wantError(t, "Promise of a lesser one", p.promise(t, 1, ballot(5, 4)), api.ErrBusy)
	wantError(t, "Accept of a great value", p.accept(t, 1, ballot(5, 4), make([]byte, mostValue+1)), api.ErrArg)
	p.alike(t, "full")
}
