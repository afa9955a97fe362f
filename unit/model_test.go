package unit_test

import (
	"bytes"
	"encoding/binary"
	"math"
	"slices"
	"testing"

	"tideline/api"
	"tideline/device"
	"tideline/unit"
)

const (
	mostAddress = 1 << 32
	mostNumber  = 1<<31 - 1
	mostData    = 65536
	mostValue   = 1000
)

// page is a page as the document tells it: a byte, numbers, and bytes, if it has some.
type page struct {
	by      byte
	numbers []int
	held    []byte
}

func pageOf(by byte, numbers ...int) page { return page{by: by, numbers: numbers} }

func (p page) with(held string) page {
	p.held = []byte(held)
	return p
}

func (p page) bytes() []byte {
	b := []byte{p.by}
	for _, n := range p.numbers {
		b = binary.BigEndian.AppendUint64(b, uint64(n))
	}
	if p.by == 1 || p.by == 6 {
		b = binary.BigEndian.AppendUint32(b, uint32(len(p.held)))
	}
	return append(b, p.held...)
}

func (p page) ballot() api.Ballot { return api.Ballot{Round: p.numbers[1], Who: p.numbers[2]} }

// readPage gives the page of bytes, if they tell one, by the document's words.
func readPage(b []byte) (page, bool) {
	if len(b) == 0 || b[0] < 1 || b[0] > 6 {
		return page{}, false
	}
	p := page{by: b[0]}
	b = b[1:]
	for range []int{1: 1, 2: 1, 3: 1, 4: 1, 5: 3, 6: 3}[p.by] {
		if len(b) < 8 {
			return page{}, false
		}
		n := binary.BigEndian.Uint64(b)
		if n > mostAddress {
			return page{}, false
		}
		p.numbers = append(p.numbers, int(n))
		b = b[8:]
	}
	if p.by >= 4 && slices.Max(p.numbers) > mostNumber || p.by >= 5 && p.numbers[0] == 0 {
		return page{}, false
	}
	if p.by == 1 || p.by == 6 {
		most := map[byte]int{1: mostData, 6: mostValue}[p.by]
		if len(b) < 4 || uint64(binary.BigEndian.Uint32(b)) != uint64(len(b)-4) || len(b)-4 > most {
			return page{}, false
		}
		p.held, b = b[4:], nil
	}
	return p, len(b) == 0
}

// model is a unit by the document's words: nothing but its pages, all of which are gone through for each thing that is asked.
type model struct {
	pages []page
	free  int
}

func newModel(pages int) *model { return &model{free: pages} }

// last gives the last page of those kinds that says something of a number (of any one, if that is below 0).
func (m *model) last(number int, kinds ...byte) (page, bool) {
	for _, p := range slices.Backward(m.pages) {
		if slices.Contains(kinds, p.by) && (number < 0 || p.numbers[0] == number) {
			return p, true
		}
	}
	return page{}, false
}

func (m *model) number(by byte) int {
	if p, is := m.last(-1, by); is {
		return p.numbers[0]
	}
	return 0
}

func (m *model) low() int   { return m.number(3) }
func (m *model) epoch() int { return m.number(4) }

func (m *model) tail() int {
	n := m.low()
	for _, p := range m.pages {
		if p.by <= 2 {
			n = max(n, p.numbers[0]+1)
		}
	}
	return n
}

func (m *model) promised(n int) api.Ballot {
	if p, is := m.last(n, 5, 6); is {
		return p.ballot()
	}
	return api.Ballot{}
}

func (m *model) accepted(n int) (api.Ballot, []byte) {
	if p, is := m.last(n, 6); is {
		return p.ballot(), p.held
	}
	return api.Ballot{}, nil
}

func (m *model) add(p page) api.Errno {
	if m.free == 0 {
		return api.ErrFull
	}
	m.free--
	m.pages = append(m.pages, p)
	return api.OK
}

func (m *model) read(epoch, at int) (api.Cell, api.Errno) {
	switch {
	case epoch != m.epoch():
		return api.Cell{}, api.ErrSealed
	case at < 0 || at > mostAddress:
		return api.Cell{}, api.ErrRange
	case at < m.low():
		return api.Cell{}, api.ErrTrimmed
	}
	p, is := m.last(at, 1, 2)
	if !is {
		return api.Cell{}, api.ErrUnwritten
	}
	return api.Cell{What: int(p.by), Data: p.held}, api.OK
}

func (m *model) write(epoch, at int, x api.Cell) (api.Cell, api.Errno) {
	there, e := m.read(epoch, at)
	isData := x.What == 1 && len(x.Data) <= mostData
	isJunk := x.What == 2 && len(x.Data) == 0
	switch {
	case e == api.ErrSealed || e == api.ErrRange:
		return api.Cell{}, e
	case !isData && !isJunk:
		return api.Cell{}, api.ErrArg
	case e == api.ErrTrimmed:
		return api.Cell{}, e
	case e == api.OK:
		return there, api.ErrWritten
	}
	return api.Cell{}, m.add(pageOf(byte(x.What), at).with(string(x.Data)))
}

func (m *model) trim(epoch, low int) api.Errno {
	_, e := m.read(epoch, low)
	switch {
	case e == api.ErrSealed || e == api.ErrRange:
		return e
	case low <= m.low():
		return api.OK
	}
	return m.add(pageOf(3, low))
}

func (m *model) seal(epoch int) api.Errno {
	switch {
	case epoch <= m.epoch():
		return api.ErrSealed
	case epoch > mostNumber:
		return api.ErrArg
	}
	return m.add(pageOf(4, epoch))
}

// minds gives the errors that Promise and Accept share.
func (m *model) minds(n int, b api.Ballot) api.Errno {
	for _, x := range []int{n, b.Round, b.Who} {
		if x < 0 || x > mostNumber {
			return api.ErrArg
		}
	}
	was := m.promised(n)
	switch {
	case n == 0:
		return api.ErrArg
	case slices.Compare([]int{b.Round, b.Who}, []int{was.Round, was.Who}) < 0:
		return api.ErrBusy
	}
	return api.OK
}

func (m *model) promise(n int, b api.Ballot) (api.Ballot, []byte, api.Errno) {
	e := m.minds(n, b)
	if e == api.OK && b != m.promised(n) {
		e = m.add(pageOf(5, n, b.Round, b.Who))
	}
	if e != api.OK {
		return api.Ballot{}, nil, e
	}
	accepted, value := m.accepted(n)
	return accepted, value, api.OK
}

func (m *model) accept(n int, b api.Ballot, value []byte) api.Errno {
	if len(value) > mostValue {
		return api.ErrArg
	}
	if e := m.minds(n, b); e != api.OK {
		return e
	}
	return m.add(pageOf(6, n, b.Round, b.Who).with(string(value)))
}

// pair is a unit and its device, and what the document says of it.
type pair struct {
	d *device.Device
	u *unit.Unit
	m *model
}

func newDevice(t testing.TB, pages int, held ...page) *device.Device {
	t.Helper()
	d, e := device.New(pages)
	if e != api.OK {
		t.Fatalf("New(%d): %d", pages, e)
	}
	for _, p := range held {
		if e := d.Append(p.bytes()); e != api.OK {
			t.Fatalf("Append: %d", e)
		}
	}
	return d
}

func open(t testing.TB, d *device.Device) *unit.Unit {
	t.Helper()
	u, e := unit.Open(d)
	if e != api.OK || u == nil {
		t.Fatalf("Open: %v, %d", u, e)
	}
	return u
}

// newPair gives a unit on a device of so many pages, of which these are written.
func newPair(t testing.TB, pages int, held ...page) *pair {
	t.Helper()
	d := newDevice(t, pages, held...)
	d.Sync()
	return &pair{d, open(t, d), &model{slices.Clone(held), pages - len(held)}}
}

func sameCell(a, b api.Cell) bool { return a.What == b.What && bytes.Equal(a.Data, b.Data) }

func (p *pair) read(t testing.TB, epoch, at int) api.Errno {
	t.Helper()
	x, e := p.u.Read(epoch, at)
	if want, wantE := p.m.read(epoch, at); e != wantE || !sameCell(x, want) {
		t.Fatalf("Read(%d, %d): %v, %d, not %v, %d", epoch, at, x, e, want, wantE)
	}
	return e
}

func (p *pair) write(t testing.TB, epoch, at int, x api.Cell) api.Errno {
	t.Helper()
	given := slices.Clone(x.Data)
	got, e := p.u.Write(epoch, at, x)
	if want, wantE := p.m.write(epoch, at, x); e != wantE || !sameCell(got, want) {
		t.Fatalf("Write(%d, %d, a cell of %d with %d bytes): %v, %d, not %v, %d", epoch, at, x.What, len(x.Data), got, e, want, wantE)
	}
	if !bytes.Equal(x.Data, given) {
		t.Fatal("Write changed what was handed in")
	}
	return e
}

func (p *pair) trim(t testing.TB, epoch, low int) api.Errno {
	t.Helper()
	e := p.u.Trim(epoch, low)
	if want := p.m.trim(epoch, low); e != want {
		t.Fatalf("Trim(%d, %d): %d, not %d", epoch, low, e, want)
	}
	return e
}

func (p *pair) seal(t testing.TB, epoch int) api.Errno {
	t.Helper()
	e := p.u.Seal(epoch)
	if want := p.m.seal(epoch); e != want {
		t.Fatalf("Seal(%d): %d, not %d", epoch, e, want)
	}
	return e
}

func (p *pair) promise(t testing.TB, n int, b api.Ballot) api.Errno {
	t.Helper()
	accepted, value, e := p.u.Promise(n, b)
	want, wantValue, wantE := p.m.promise(n, b)
	if e != wantE || accepted != want || !bytes.Equal(value, wantValue) {
		t.Fatalf("Promise(%d, %v): %v, %q, %d, not %v, %q, %d", n, b, accepted, value, e, want, wantValue, wantE)
	}
	return e
}

func (p *pair) accept(t testing.TB, n int, b api.Ballot, value []byte) api.Errno {
	t.Helper()
	given := slices.Clone(value)
	e := p.u.Accept(n, b, value)
	if want := p.m.accept(n, b, value); e != want {
		t.Fatalf("Accept(%d, %v, %d bytes): %d, not %d", n, b, len(value), e, want)
	}
	if !bytes.Equal(value, given) {
		t.Fatal("Accept changed what was handed in")
	}
	return e
}

// addresses gives those that something may be told of: those around what was written or trimmed, and the bounds.
func (m *model) addresses() []int {
	all := []int{math.MinInt, -1, 0, 1, 2, mostAddress - 1, mostAddress, mostAddress + 1, math.MaxInt}
	for _, p := range m.pages {
		if p.by <= 3 {
			all = append(all, p.numbers[0]-1, p.numbers[0], p.numbers[0]+1)
		}
	}
	slices.Sort(all)
	return slices.Compact(all)
}

// instances gives those that something may be told of.
func (m *model) instances() []int {
	all := []int{1, 2, mostNumber}
	for _, p := range m.pages {
		if p.by >= 5 {
			all = append(all, p.numbers[0])
		}
	}
	slices.Sort(all)
	return slices.Compact(all)
}

// alike looks whether the unit is what the document says, and its device's pages, too.
func (p *pair) alike(t testing.TB, what any) {
	t.Helper()
	u, m := p.u, p.m
	if u.Epoch() != m.epoch() || u.Low() != m.low() || u.Tail() != m.tail() {
		t.Fatalf("%v: epoch %d, low %d, tail %d, not %d, %d, %d", what, u.Epoch(), u.Low(), u.Tail(), m.epoch(), m.low(), m.tail())
	}
	for _, at := range m.addresses() {
		p.read(t, m.epoch(), at)
		p.read(t, m.epoch()+1, at)
	}
	for _, n := range m.instances() {
		p.sameInstance(t, what, n)
	}
	got := p.d.Pages()
	want := m.bytes()
	if !slices.EqualFunc(got, want, bytes.Equal) || p.d.Free() != m.free {
		t.Fatalf("%v: pages %v, %d free, not %v, %d", what, got, p.d.Free(), want, m.free)
	}
}

func (m *model) bytes() [][]byte {
	var all [][]byte
	for _, p := range m.pages {
		all = append(all, p.bytes())
	}
	return all
}

// sameInstance looks at an instance by ballots that change nothing: the one that was promised, which isn't written, and the one just below it.
func (p *pair) sameInstance(t testing.TB, what any, n int) {
	t.Helper()
	b := p.m.promised(n)
	below := api.Ballot{Round: b.Round, Who: b.Who - 1}
	if b.Who == 0 {
		below = api.Ballot{Round: b.Round - 1, Who: mostNumber}
	}
	if b != (api.Ballot{}) {
		p.promise(t, n, below)
		p.accept(t, n, below, nil)
	}
	free := p.d.Free()
	p.promise(t, n, b)
	if p.d.Free() != free {
		t.Fatalf("%v: instance %d: it wasn't %v that was promised", what, n, b)
	}
}

// again gives what the same device comes to when it is opened anew.
func (p *pair) again(t testing.TB) *pair {
	t.Helper()
	return &pair{p.d, open(t, p.d), p.m}
}

// twin gives a unit on a twin of the device.
func (p *pair) twin(t testing.TB) *pair {
	t.Helper()
	d := p.d.Twin()
	return &pair{d, open(t, d), &model{slices.Clone(p.m.pages), p.m.free}}
}
