package device_test

import (
	"bytes"
	"math"
	"math/rand"
	"slices"
	"testing"

	"tideline/api"
	"tideline/device"
)

const most = 65536

// opened gives a device of so many pages, with these written, one behind the other.
func opened(t *testing.T, pages int, held ...string) *device.Device {
	t.Helper()
	d, e := device.New(pages)
	if e != api.OK || d == nil {
		t.Fatalf("New(%d): %v, %d", pages, d, e)
	}
	writes(t, d, held...)
	return d
}

func writes(t *testing.T, d *device.Device, held ...string) {
	t.Helper()
	for _, s := range held {
		if e := d.Append([]byte(s)); e != api.OK {
			t.Fatalf("Append(%q): %d", s, e)
		}
	}
}

// wants looks what the pages are, and how many are free.
func wants(t *testing.T, what string, d *device.Device, free int, held ...string) {
	t.Helper()
	if got := texts(d.Pages()); !slices.Equal(got, held) || d.Free() != free {
		t.Errorf("%s: %q, %d free, not %q, %d", what, got, d.Free(), held, free)
	}
}

func wantFull(t *testing.T, d *device.Device) {
	t.Helper()
	for _, b := range [][]byte{nil, {}, {1}, []byte("full")} {
		if e := d.Append(b); e != api.ErrFull {
			t.Errorf("Append(%q): %d", b, e)
		}
	}
}

// P8.1

func TestNew(t *testing.T) {
	for _, n := range []int{1, 2, 3, 255, 256, most - 1, most} {
		wants(t, "new", opened(t, n), n)
	}
}

func TestNewOutOfRange(t *testing.T) {
	for _, n := range []int{0, -1, -2, -most, math.MinInt, most + 1, most + 2, 1 << 31, 1 << 32, 1<<32 + 1, math.MaxInt} {
		if d, e := device.New(n); d != nil || e != api.ErrRange {
			t.Errorf("New(%d): %v, %d", n, d, e)
		}
	}
}

func TestAppend(t *testing.T) {
	d := opened(t, 4)
	writes(t, d, "a")
	wants(t, "seen at once", d, 3, "a")
	writes(t, d, "", "a")
	wants(t, "a page without bytes, and the same again", d, 1, "a", "", "a")
	writes(t, d, "\x00\xff")
	wants(t, "the last page", d, 0, "a", "", "a", "\x00\xff")
	wantFull(t, d)
	wants(t, "full", d, 0, "a", "", "a", "\x00\xff")
}

func TestAppendNone(t *testing.T) {
	d := opened(t, 3)
	if e := d.Append(nil); e != api.OK {
		t.Error(e)
	}
	if e := d.Append([]byte{}); e != api.OK {
		t.Error(e)
	}
	wants(t, "pages without bytes are whole", d, 1, "", "")
}

func TestAppendMany(t *testing.T) {
	d := opened(t, 2)
	b := bytes.Repeat([]byte("0123456789abcdef"), 1<<16)
	if e := d.Append(b); e != api.OK {
		t.Fatal(e)
	}
	if p := d.Pages(); len(p) != 1 || !bytes.Equal(p[0], b) || d.Free() != 1 {
		t.Errorf("%d pages, %d free", len(p), d.Free())
	}
}

func TestOnePage(t *testing.T) {
	d := opened(t, 1, "a")
	wantFull(t, d)
	d.Crash([]byte{0})
	wants(t, "empty again", d, 1)
	writes(t, d, "b")
	d.Crash([]byte{2})
	wants(t, "torn", d, 0)
	wantFull(t, d)
	d.Wipe()
	wants(t, "wiped", d, 1)
}

func TestAllPages(t *testing.T) {
	p := newPair(t, most)
	for n := range most {
		if e := p.d.Append([]byte{byte(n), byte(n >> 8)}); e != api.OK {
			t.Fatalf("page %d: %d", n, e)
		}
		p.m[n] = place{"whole", string([]byte{byte(n), byte(n >> 8)}), true}
	}
	p.alike(t, "all are written")
	wantFull(t, p.d)
	p.crash(t, []byte{1, 2, 0, 4, 1, 0, 0, 5, 1})
	p.alike(t, "crashed")
	if p.m.free() != 2 {
		t.Errorf("%d", p.m.free())
	}
	p.append(t, []byte("x"))
	p.append(t, []byte("y"))
	p.alike(t, "full again")
	wantFull(t, p.d)
	p.crash(t, nil)
	p.alike(t, "and not")
}

func TestSync(t *testing.T) {
	for _, by := range [][]byte{nil, {}, {0}, {2}, {0, 2}} {
		d := opened(t, 5, "a", "b")
		d.Sync()
		d.Crash(by)
		wants(t, "all lasts", d, 3, "a", "b")
		writes(t, d, "c")
		d.Sync()
		d.Sync()
		d.Crash(by)
		wants(t, "all lasts again", d, 2, "a", "b", "c")
	}
}

func TestSyncOfNothing(t *testing.T) {
	d := opened(t, 2)
	d.Sync()
	wants(t, "nothing", d, 2)
	writes(t, d, "a")
	d.Crash(nil)
	wants(t, "what was written behind the Sync", d, 2)
}

func TestWipe(t *testing.T) {
	d := opened(t, 4, "a", "b")
	d.Sync()
	writes(t, d, "c")
	d.Wipe()
	wants(t, "wiped", d, 4)
	d.Crash([]byte{2})
	wants(t, "that lasts", d, 4)
	writes(t, d, "d", "e")
	d.Crash([]byte{1, 2})
	wants(t, "what was written behind it doesn't", d, 2, "d")
	d.Wipe()
	d.Wipe()
	wants(t, "torn pages go as well", d, 4)
	writes(t, d, "f", "g", "h", "i")
	wantFull(t, d)
}

// P8.2

func TestExample(t *testing.T) {
	for _, n := range []int{2, 3, 9} {
		d := opened(t, n, "a")
		d.Crash([]byte{2})
		wants(t, "torn", d, n-1)
		writes(t, d, "b")
		wants(t, "the example", d, n-2, "b")
	}
}

func TestCrashByAnyByte(t *testing.T) {
	for by := range 256 {
		d := opened(t, 3, "a")
		d.Crash([]byte{byte(by)})
		switch by % 3 {
		case 0:
			wants(t, "empty", d, 3)
		case 1:
			wants(t, "whole", d, 2, "a")
		case 2:
			wants(t, "torn", d, 2)
		}
	}
}

func TestCrashWithoutPicks(t *testing.T) {
	for _, none := range [][]byte{nil, {}} {
		d := opened(t, 4, "a")
		d.Sync()
		writes(t, d, "b", "c")
		d.Crash(none)
		wants(t, "all empty", d, 3, "a")
	}
}

func TestCrashOfNothing(t *testing.T) {
	d := opened(t, 2)
	for _, by := range [][]byte{nil, {0}, {1}, {2}} {
		d.Crash(by)
		wants(t, "nothing was written", d, 2)
	}
}

func TestCrashGoesRound(t *testing.T) {
	d := opened(t, 9, "a", "b", "c", "d", "e", "f", "g", "h")
	d.Crash([]byte{1, 2, 4})
	wants(t, "three picks", d, 1, "a", "c", "d", "f", "g")
	d = opened(t, 9, "a", "b")
	d.Crash([]byte{1, 1, 2, 2, 0})
	wants(t, "more picks than pages", d, 7, "a", "b")
	d = opened(t, 9, "a", "b", "c")
	d.Crash([]byte{1})
	wants(t, "one pick", d, 6, "a", "b", "c")
}

// The picks are of the pages that were written since the last Sync, the first one of these by the first pick.
func TestCrashCountsFromSync(t *testing.T) {
	d := opened(t, 9, "a")
	d.Sync()
	writes(t, d, "b", "c", "d")
	d.Crash([]byte{1, 0, 2})
	wants(t, "behind one that lasts", d, 5, "a", "b")
	writes(t, d, "e", "f")
	d.Crash([]byte{2, 1})
	wants(t, "and behind those of a crash", d, 3, "a", "b", "f")
}

func TestCrashEmptyAhead(t *testing.T) {
	d := opened(t, 5, "a", "b", "c")
	d.Crash([]byte{0, 0, 1})
	wants(t, "empty pages ahead of a whole one", d, 2, "c")
	writes(t, d, "d")
	wants(t, "the next one is behind it", d, 1, "c", "d")
	d.Crash([]byte{2})
	wants(t, "torn", d, 1, "c")
	writes(t, d, "e")
	wantFull(t, d)
	d = opened(t, 5, "a", "b")
	d.Crash([]byte{0, 2})
	wants(t, "an empty page ahead of a torn one", d, 3)
}

func TestCrashEmptyBehind(t *testing.T) {
	d := opened(t, 5, "a", "b", "c", "d")
	d.Crash([]byte{1, 0, 0, 0})
	wants(t, "behind a whole one", d, 4, "a")
	d = opened(t, 5, "a", "b", "c", "d")
	d.Crash([]byte{0, 2, 0, 0})
	wants(t, "behind a torn one", d, 3)
	writes(t, d, "e")
	wants(t, "written again", d, 2, "e")
}

func TestCrashLasts(t *testing.T) {
	d := opened(t, 5, "a", "b", "c")
	d.Crash([]byte{1, 2, 1})
	for _, by := range [][]byte{nil, {0}, {1}, {2}} {
		d.Crash(by)
		wants(t, "behind another crash", d, 2, "a", "c")
	}
}

func TestTwin(t *testing.T) {
	d := opened(t, 6, "a")
	d.Sync()
	writes(t, d, "b", "c", "d")
	d.Crash([]byte{0, 2, 1})
	writes(t, d, "e")
	twin := d.Twin()
	wants(t, "a twin", twin, 1, "a", "d", "e")
	twin.Crash([]byte{0})
	wants(t, "all lasts there", twin, 1, "a", "d", "e")
	writes(t, twin, "f")
	wantFull(t, twin)
	twin.Crash(nil)
	wants(t, "a twin crashes", twin, 1, "a", "d", "e")
	wants(t, "that is another device", d, 1, "a", "d", "e")
	d.Crash([]byte{2})
	wants(t, "here it didn't last", d, 1, "a", "d")
	d.Wipe()
	wants(t, "wiped", d, 6)
	wants(t, "the twin isn't", twin, 1, "a", "d", "e")
}

func TestTwinOfNothing(t *testing.T) {
	d := opened(t, 2)
	twin := d.Twin()
	if twin == d {
		t.Fatal("the device is its own twin")
	}
	wants(t, "nothing", twin, 2)
	writes(t, twin, "a", "b")
	wants(t, "the twin", twin, 0, "a", "b")
	wants(t, "the device", d, 2)
}

// Both write behind the same pages: neither may see what the other one wrote.
func TestTwinsWrite(t *testing.T) {
	d := opened(t, 8, "a", "b", "c")
	first, second := d.Twin(), d.Twin()
	writes(t, d, "d", "e")
	writes(t, first, "f", "g")
	writes(t, second, "h")
	third := second.Twin()
	writes(t, third, "i")
	wants(t, "the device", d, 3, "a", "b", "c", "d", "e")
	wants(t, "its twin", first, 3, "a", "b", "c", "f", "g")
	wants(t, "another twin", second, 4, "a", "b", "c", "h")
	wants(t, "the twin's twin", third, 3, "a", "b", "c", "h", "i")
}

func TestTwinIsWiped(t *testing.T) {
	d := opened(t, 3, "a", "b")
	twin := d.Twin()
	twin.Wipe()
	writes(t, twin, "c")
	wants(t, "the twin", twin, 2, "c")
	wants(t, "the device", d, 1, "a", "b")
}

func TestMemory(t *testing.T) {
	room := []byte("abcdefgh")
	d, _ := device.New(4)
	d.Append(room[:3])
	if string(room) != "abcdefgh" {
		t.Errorf("what was handed in: %q", room)
	}
	room[0] = 'x'
	wants(t, "what was handed in is kept", d, 3, "abc")
	d.Append([]byte("def"))
	twin := d.Twin()
	first, second := d.Pages(), d.Pages()
	clear(first[0])
	_ = append(first[0], "zzzzzz"...)
	_ = append(first[:1], []byte("z"))
	wants(t, "what was answered is kept", d, 2, "abc", "def")
	wants(t, "or the twin has it", twin, 2, "abc", "def")
	if got := texts(second); !slices.Equal(got, []string{"abc", "def"}) {
		t.Errorf("two answers are one: %q", got)
	}
	clear(twin.Pages()[1])
	wants(t, "the twin's answer is the device's", d, 2, "abc", "def")
}

// P1 and P2

// steps are what may be done, each one on a device and a device that was its twin.
func steps() []func(t testing.TB, p *pair, other *pair) {
	crash := func(picks ...byte) func(testing.TB, *pair, *pair) {
		return func(t testing.TB, p, _ *pair) { p.crash(t, picks) }
	}
	return []func(t testing.TB, p *pair, other *pair){
		func(t testing.TB, p, _ *pair) { p.append(t, []byte("a")) },
		func(t testing.TB, p, _ *pair) { p.append(t, []byte("bc")) },
		func(_ testing.TB, p, _ *pair) { p.sync() },
		func(_ testing.TB, p, other *pair) { *other = p.twin() },
		func(_ testing.TB, p, other *pair) { *p, *other = *other, *p },
		func(_ testing.TB, p, _ *pair) { p.wipe() },
		crash(),
		crash(1),
		crash(2),
		crash(0, 1),
		crash(2, 0, 1),
	}
}

// All runs of a few of these steps, on a device with few pages.
func TestAllSteps(t *testing.T) {
	const long = 5
	all := steps()
	count := 1
	for range long {
		count *= len(all)
	}
	for number := range count {
		p, other := newPair(t, 3), newPair(t, 2)
		for rest, i := number, 0; i < long; i++ {
			all[rest%len(all)](t, &p, &other)
			rest /= len(all)
			p.alike(t, number)
		}
		other.alike(t, number)
	}
}

// goThrough does what the bytes say, and looks behind each step whether the device is what the document says.
func goThrough(t testing.TB, script []byte) {
	t.Helper()
	take := func(n int) []byte {
		n = min(n, len(script))
		b := script[:n:n]
		script = script[n:]
		return b
	}
	one := func() int { return int(append(take(1), 0)[0]) }
	pages := 1 + one()%24
	p, other := newPair(t, pages), newPair(t, pages)
	for len(script) > 0 {
		switch by := one(); by % 16 {
		default:
			p.append(t, take(one()%5))
		case 9, 10, 11:
			p.sync()
		case 12, 13:
			p.crash(t, take(one()%6))
		case 14:
			if by >= 128 {
				p.wipe()
			}
		case 15:
			if by >= 128 {
				other = p.twin()
			} else {
				p, other = other, p
			}
		}
		p.alike(t, "a step")
	}
	other.alike(t, "the other one")
}

func someBytes(seed int64, size int) []byte {
	b := make([]byte, size)
	rand.New(rand.NewSource(seed)).Read(b)
	return b
}

func TestAnySteps(t *testing.T) {
	for seed := range int64(2000) {
		goThrough(t, someBytes(seed, 300))
	}
}

func FuzzSteps(f *testing.F) {
	for seed := range int64(10) {
		f.Add(someBytes(seed, 60))
	}
	f.Add([]byte{})
	f.Fuzz(func(t *testing.T, script []byte) {
		goThrough(t, script)
	})
}

func TestAgain(t *testing.T) {
	told := func() (all []string) {
		d := opened(t, 9, "a", "b", "c", "d", "e")
		d.Crash([]byte{1, 0, 2, 4})
		writes(t, d, "f", "")
		return append(append(all, texts(d.Pages())...), string(rune('0'+d.Free())))
	}
	if first, second := told(), told(); !slices.Equal(first, second) {
		t.Errorf("%q, then %q", first, second)
	}
}

func TestAskingChangesNothing(t *testing.T) {
	d := opened(t, 4, "a")
	d.Sync()
	writes(t, d, "b")
	for range 3 {
		wants(t, "asked", d, 2, "a", "b")
		d.Twin()
	}
	d.Crash(nil)
	wants(t, "what didn't last", d, 3, "a")
}
