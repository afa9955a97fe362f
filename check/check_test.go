package check_test

import (
	"bytes"
	"hash/crc32"
	"math"
	"slices"
	"testing"

	"tideline/api"
	"tideline/check"
)

// slowSum is the sum as the document tells it, bit by bit.
func slowSum(b []byte) uint32 {
	bits := uint32(math.MaxUint32)
	for _, x := range b {
		bits ^= uint32(x)
		for range 8 {
			went := bits & 1
			bits >>= 1
			if went == 1 {
				bits ^= 0xedb88320
			}
		}
	}
	return ^bits
}

// some gives so many bytes, all kinds of them.
func some(n int) []byte {
	b := make([]byte, n)
	for i := range b {
		b[i] = byte(i*i*7 + i>>8 + 3*n)
	}
	return b
}

// P2.1

func TestSumExample(t *testing.T) {
	if s := check.Sum([]byte("123456789")); s != 0xcbf43926 {
		t.Errorf("%x", s)
	}
	if s := check.Sum(nil); s != 0 {
		t.Errorf("of nothing: %x", s)
	}
	if s := check.Sum([]byte{}); s != 0 {
		t.Errorf("of nothing: %x", s)
	}
}

func TestSumOfEachByte(t *testing.T) {
	for x := range 256 {
		b := []byte{byte(x)}
		if s := check.Sum(b); s != slowSum(b) {
			t.Errorf("of %d: %x", x, s)
		}
	}
}

func TestSumOfLongerOnes(t *testing.T) {
	for n := range 300 {
		b := some(n)
		if s := check.Sum(b); s != slowSum(b) || s != crc32.ChecksumIEEE(b) {
			t.Errorf("of %d bytes: %x", n, s)
		}
	}
}

func TestMoreAtEachPlace(t *testing.T) {
	b := some(90)
	for i := range len(b) + 1 {
		if s := check.More(check.Sum(b[:i]), b[i:]); s != slowSum(b) {
			t.Errorf("cut at %d: %x", i, s)
		}
	}
	for _, sum := range []uint32{0, 1, 1 << 31, math.MaxUint32} {
		if s := check.More(sum, nil); s != sum {
			t.Errorf("%x and nothing: %x", sum, s)
		}
		if s := check.More(sum, b); s != crc32.Update(sum, crc32.IEEETable, b) {
			t.Errorf("%x and more: %x", sum, s)
		}
	}
}

func TestWrap(t *testing.T) {
	if b := check.Wrap([]byte("123456789")); string(b) != "123456789\xcb\xf4\x39\x26" {
		t.Errorf("%q", b)
	}
	if b := check.Wrap(nil); string(b) != "\x00\x00\x00\x00" {
		t.Errorf("%q", b)
	}
}

func TestUnwrapOfWrap(t *testing.T) {
	for n := range 40 {
		b := some(n)
		if got, e := check.Unwrap(check.Wrap(b)); e != api.OK || !bytes.Equal(got, b) {
			t.Errorf("%d bytes: %v, %d", n, got, e)
		}
	}
}

func wantForm(t *testing.T, what string, b []byte) {
	t.Helper()
	if got, e := check.Unwrap(b); e != api.ErrForm || len(got) != 0 {
		t.Errorf("%s: %v, %d", what, got, e)
	}
}

func TestUnwrapForm(t *testing.T) {
	for n := range 4 {
		wantForm(t, "too few", make([]byte, n))
	}
	whole := check.Wrap(some(20))
	for i := range whole {
		for bit := range 8 {
			b := slices.Clone(whole)
			b[i] ^= 1 << bit
			wantForm(t, "a bit is turned", b)
		}
	}
	for i := range whole {
		wantForm(t, "cut", whole[:i])
	}
	wantForm(t, "one too many", append(slices.Clone(whole), 0))
	wantForm(t, "the sum the other way round", []byte{'a', 0x43, 0xbe, 0xb7, 0xe8})
	if got, e := check.Unwrap([]byte{'a', 0xe8, 0xb7, 0xbe, 0x43}); e != api.OK || string(got) != "a" {
		t.Errorf("%v, %d", got, e)
	}
}

func TestMemory(t *testing.T) {
	room := []byte("abcdefgh")
	given := room[:3]
	wrapped := check.Wrap(given)
	if string(room) != "abcdefgh" {
		t.Errorf("what was handed in: %q", room)
	}
	given[0] = 'x'
	if string(wrapped[:3]) != "abc" {
		t.Errorf("Wrap: %q", wrapped)
	}
	was := slices.Clone(wrapped)
	got, _ := check.Unwrap(wrapped)
	got[0] = 'y'
	_ = append(got, "zzzzzz"...)
	if !bytes.Equal(wrapped, was) {
		t.Errorf("what was handed in: %q", wrapped)
	}
	check.Sum(room)
	check.More(1, room)
	if string(room) != "xbcdefgh" {
		t.Errorf("what was handed in: %q", room)
	}
}

// P1 and P2

func FuzzAlike(f *testing.F) {
	f.Add([]byte{}, uint32(0))
	f.Add([]byte{0, 0, 0, 0}, uint32(1))
	f.Add(some(70), uint32(math.MaxUint32))
	f.Add(check.Wrap(some(9)), uint32(1)<<31)
	f.Fuzz(func(t *testing.T, b []byte, sum uint32) {
		if check.Sum(b) != check.Sum(slices.Clone(b)) || check.More(sum, b) != check.More(sum, slices.Clone(b)) || !bytes.Equal(check.Wrap(b), check.Wrap(slices.Clone(b))) {
			t.Error("the same bytes, another answer")
		}
		first, e := check.Unwrap(b)
		second, again := check.Unwrap(slices.Clone(b))
		if e != again || !bytes.Equal(first, second) {
			t.Error("the same bytes, another answer")
		}
		right := len(b) >= 4 && bytes.Equal(check.Wrap(b[:len(b)-4]), b)
		if right != (e == api.OK) {
			t.Errorf("Unwrap: %d", e)
		}
	})
}
