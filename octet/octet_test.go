package octet_test

import (
	"bytes"
	"fmt"
	"math"
	"slices"
	"testing"

	"tideline/api"
	"tideline/octet"
)

func put(do func(*octet.Writer)) []byte {
	w := &octet.Writer{}
	do(w)
	return w.Out()
}

func wantBytes(t *testing.T, what string, got []byte, want ...byte) {
	t.Helper()
	if !bytes.Equal(got, want) {
		t.Errorf("%s: %v, not %v", what, got, want)
	}
}

// wantWrong: behind the moment at which r went wrong all calls take nothing, and give zero values.
func wantWrong(t *testing.T, what string, r *octet.Reader) {
	t.Helper()
	if r.Left() != 0 || r.End() != api.ErrForm {
		t.Errorf("%s: Left %d, End %d", what, r.Left(), r.End())
	}
	calls := 0
	list := octet.List(r, 9, func(*octet.Reader) int { calls++; return 1 })
	if r.Byte() != 0 || r.Number(0) != 0 || r.Number(2) != 0 || r.Int() != 0 || len(r.Bytes(9)) != 0 || r.Flag() || len(list) != 0 || calls != 0 {
		t.Errorf("%s: a thing was taken behind that", what)
	}
	if r.Left() != 0 || r.End() != api.ErrForm {
		t.Errorf("%s: it went right again", what)
	}
}

// P1.1

func TestZeroWriterHasPutNothing(t *testing.T) {
	wantBytes(t, "zero Writer", put(func(*octet.Writer) {}))
}

func TestByte(t *testing.T) {
	wantBytes(t, "Byte", put(func(w *octet.Writer) { w.Byte(0); w.Byte(255) }), 0, 255)
}

func TestNumberSizes(t *testing.T) {
	v := uint64(0x0102030405060708)
	whole := []byte{1, 2, 3, 4, 5, 6, 7, 8}
	for n := range 9 {
		wantBytes(t, fmt.Sprint("Number of size ", n), put(func(w *octet.Writer) { w.Number(v, n) }), whole[8-n:]...)
	}
	for _, n := range []int{-1, math.MinInt} {
		wantBytes(t, "Number below 0", put(func(w *octet.Writer) { w.Number(v, n) }))
	}
	for _, n := range []int{9, 1 << 32, math.MaxInt} {
		wantBytes(t, "Number above 8", put(func(w *octet.Writer) { w.Number(v, n) }), whole...)
	}
	wantBytes(t, "Number too great", put(func(w *octet.Writer) { w.Number(0x1ff, 1) }), 255)
	wantBytes(t, "Number small", put(func(w *octet.Writer) { w.Number(5, 3) }), 0, 0, 5)
}

func TestInt(t *testing.T) {
	wantBytes(t, "Int -2", put(func(w *octet.Writer) { w.Int(-2) }), 255, 255, 255, 255, 255, 255, 255, 254)
	wantBytes(t, "Int least", put(func(w *octet.Writer) { w.Int(math.MinInt) }), 128, 0, 0, 0, 0, 0, 0, 0)
	wantBytes(t, "Int 258", put(func(w *octet.Writer) { w.Int(258) }), 0, 0, 0, 0, 0, 0, 1, 2)
}

func TestBytesExample(t *testing.T) {
	wantBytes(t, "Bytes", put(func(w *octet.Writer) { w.Bytes([]byte{1, 2}) }), 0, 0, 0, 2, 1, 2)
	wantBytes(t, "Bytes of none", put(func(w *octet.Writer) { w.Bytes(nil); w.Bytes([]byte{}) }), 0, 0, 0, 0, 0, 0, 0, 0)
	long := make([]byte, 258)
	wantBytes(t, "Bytes of 258", put(func(w *octet.Writer) { w.Bytes(long) })[:4], 0, 0, 1, 2)
}

func TestFlag(t *testing.T) {
	wantBytes(t, "Flag", put(func(w *octet.Writer) { w.Flag(true); w.Flag(false) }), 1, 0)
}

func TestPutList(t *testing.T) {
	w := &octet.Writer{}
	w.Byte(9)
	octet.PutList(w, []string{"a", "", "bc"}, func(v *octet.Writer, s string) {
		if v != w {
			t.Error("one is called with another Writer")
		}
		v.Bytes([]byte(s))
	})
	wantBytes(t, "PutList", w.Out(), 9, 0, 0, 0, 3, 0, 0, 0, 1, 'a', 0, 0, 0, 0, 0, 0, 0, 2, 'b', 'c')
}

func TestPutListOfNone(t *testing.T) {
	never := func(*octet.Writer, int) { t.Error("one was called") }
	wantBytes(t, "PutList of none", put(func(w *octet.Writer) {
		octet.PutList(w, nil, never)
		octet.PutList(w, []int{}, never)
	}), 0, 0, 0, 0, 0, 0, 0, 0)
}

func TestPutListInPutList(t *testing.T) {
	got := put(func(w *octet.Writer) {
		octet.PutList(w, [][]byte{{1}, {2, 3}}, func(w *octet.Writer, l []byte) { octet.PutList(w, l, (*octet.Writer).Byte) })
	})
	wantBytes(t, "lists", got, 0, 0, 0, 2, 0, 0, 0, 1, 1, 0, 0, 0, 2, 2, 3)
}

func TestWriterMemory(t *testing.T) {
	w, b := &octet.Writer{}, []byte{1, 2}
	w.Bytes(b)
	b[0] = 9
	first := w.Out()
	second := w.Out()
	first[4] = 7
	_ = append(first[:5], 7)
	wantBytes(t, "Out, twice", second, 0, 0, 0, 2, 1, 2)
	w.Byte(3)
	wantBytes(t, "Out, and more", w.Out(), 0, 0, 0, 2, 1, 2, 3)
	wantBytes(t, "Out of before", second, 0, 0, 0, 2, 1, 2)
	wantBytes(t, "what was handed in", b, 9, 2)
}

// P1.2

func TestReadAll(t *testing.T) {
	r := octet.Read([]byte{7, 1, 2, 255, 255, 255, 255, 255, 255, 255, 254, 0, 0, 0, 2, 3, 4, 1, 0, 0, 0, 0, 1, 8})
	if b := r.Byte(); b != 7 {
		t.Error(b)
	}
	if n := r.Number(2); n != 258 {
		t.Error(n)
	}
	if n := r.Int(); n != -2 {
		t.Error(n)
	}
	wantBytes(t, "Bytes", r.Bytes(2), 3, 4)
	if !r.Flag() || r.Flag() {
		t.Error("Flag")
	}
	wantBytes(t, "List", octet.List(r, 1, (*octet.Reader).Byte), 8)
	if r.End() != api.OK {
		t.Error(r.End())
	}
}

func TestReadNumberSizes(t *testing.T) {
	b := []byte{255, 2, 3, 4, 5, 6, 7, 8, 9}
	v := uint64(0)
	for n := range 9 {
		r := octet.Read(b)
		if got := r.Number(n); got != v || r.Left() != 9-n {
			t.Errorf("Number(%d): %x, %d left", n, got, r.Left())
		}
		v = v<<8 | uint64(b[n])
	}
	for _, n := range []int{-1, math.MinInt} {
		r := octet.Read(b)
		if got := r.Number(n); got != 0 || r.Left() != 9 {
			t.Errorf("Number(%d): %x, %d left", n, got, r.Left())
		}
	}
	for _, n := range []int{9, math.MaxInt} {
		r := octet.Read(b)
		if got := r.Number(n); got != 0xff02030405060708 || r.Left() != 1 {
			t.Errorf("Number(%d): %x, %d left", n, got, r.Left())
		}
	}
	r := octet.Read(nil)
	if r.Number(0) != 0 || r.Number(-3) != 0 || r.End() != api.OK {
		t.Error("a number of no bytes needs none")
	}
}

func TestTooFewBytes(t *testing.T) {
	takes := map[string]struct {
		given []byte
		take  func(*octet.Reader) bool
	}{
		"Byte":            {nil, func(r *octet.Reader) bool { return r.Byte() == 0 }},
		"Number":          {[]byte{1, 2}, func(r *octet.Reader) bool { return r.Number(3) == 0 }},
		"Number above 8":  {[]byte{1, 2, 3, 4, 5, 6, 7}, func(r *octet.Reader) bool { return r.Number(9) == 0 }},
		"Int":             {[]byte{1, 2, 3, 4, 5, 6, 7}, func(r *octet.Reader) bool { return r.Int() == 0 }},
		"Bytes, count":    {[]byte{0, 0, 0}, func(r *octet.Reader) bool { return len(r.Bytes(9)) == 0 }},
		"Bytes, bytes":    {[]byte{0, 0, 0, 2, 1}, func(r *octet.Reader) bool { return len(r.Bytes(9)) == 0 }},
		"Bytes, greatest": {[]byte{255, 255, 255, 255, 1}, func(r *octet.Reader) bool { return len(r.Bytes(math.MaxInt)) == 0 }},
		"Flag":            {nil, func(r *octet.Reader) bool { return !r.Flag() }},
		"List, count":     {[]byte{0, 0, 1}, func(r *octet.Reader) bool { return len(octet.List(r, 9, (*octet.Reader).Byte)) == 0 }},
		"List, things":    {[]byte{0, 0, 0, 2, 1}, func(r *octet.Reader) bool { return len(octet.List(r, 9, (*octet.Reader).Byte)) == 0 }},
		"List, greatest":  {[]byte{255, 255, 255, 255, 1}, func(r *octet.Reader) bool { return len(octet.List(r, math.MaxInt, (*octet.Reader).Byte)) == 0 }},
	}
	for what, x := range takes {
		r := octet.Read(x.given)
		if !x.take(r) {
			t.Errorf("%s: no zero value", what)
		}
		wantWrong(t, what, r)
	}
}

func TestBytesMost(t *testing.T) {
	given := []byte{0, 0, 0, 2, 1, 2, 9}
	for _, most := range []int{2, 3, math.MaxInt} {
		r := octet.Read(given)
		wantBytes(t, "Bytes", r.Bytes(most), 1, 2)
		if r.Left() != 1 {
			t.Error(r.Left())
		}
	}
	for _, most := range []int{1, 0, -1, math.MinInt} {
		r := octet.Read(given)
		wantBytes(t, "Bytes", r.Bytes(most))
		wantWrong(t, "Bytes", r)
	}
	r := octet.Read([]byte{0, 0, 0, 0})
	if len(r.Bytes(0)) != 0 || r.End() != api.OK {
		t.Error("Bytes of none")
	}
	r = octet.Read([]byte{0, 0, 0, 0})
	r.Bytes(-1)
	wantWrong(t, "Bytes of none, most -1", r)
}

func TestFlagForm(t *testing.T) {
	for b := range 256 {
		r := octet.Read([]byte{byte(b), 1})
		if r.Flag() != (b == 1) {
			t.Errorf("Flag of %d", b)
		}
		if b > 1 {
			wantWrong(t, "Flag", r)
		} else if !r.Flag() || r.End() != api.OK {
			t.Errorf("behind the Flag of %d", b)
		}
	}
}

func TestListMost(t *testing.T) {
	given := []byte{0, 0, 0, 2, 1, 2, 9}
	for _, most := range []int{2, 3, math.MaxInt} {
		r := octet.Read(given)
		wantBytes(t, "List", octet.List(r, most, (*octet.Reader).Byte), 1, 2)
		if r.Left() != 1 {
			t.Error(r.Left())
		}
	}
	for _, most := range []int{1, 0, -1, math.MinInt} {
		r := octet.Read(given)
		list := octet.List(r, most, func(*octet.Reader) int { t.Error("one was called"); return 1 })
		if len(list) != 0 {
			t.Error(list)
		}
		wantWrong(t, "List", r)
	}
	r := octet.Read([]byte{0, 0, 0, 0})
	if len(octet.List(r, 0, (*octet.Reader).Byte)) != 0 || r.End() != api.OK {
		t.Error("List of none")
	}
	r = octet.Read([]byte{0, 0, 0, 0})
	octet.List(r, -1, (*octet.Reader).Byte)
	wantWrong(t, "List of none, most -1", r)
}

func TestListCallsNoMoreBehindWrong(t *testing.T) {
	r, calls := octet.Read([]byte{0, 0, 0, 5, 1, 0, 7, 1, 1}), 0
	list := octet.List(r, 5, func(v *octet.Reader) bool {
		if v != r {
			t.Error("one is called with another Reader")
		}
		calls++
		return v.Flag()
	})
	if len(list) != 0 || calls != 3 {
		t.Error(list, calls)
	}
	wantWrong(t, "List", r)
}

func TestListWrongByItsLastThing(t *testing.T) {
	r := octet.Read([]byte{0, 0, 0, 2, 1, 2})
	if list := octet.List(r, 2, (*octet.Reader).Flag); len(list) != 0 {
		t.Error(list)
	}
	wantWrong(t, "List", r)
}

func TestListOfThingsWithoutBytes(t *testing.T) {
	r, n := octet.Read([]byte{0, 0, 0, 3}), 0
	list := octet.List(r, 3, func(*octet.Reader) int { n++; return n })
	if !slices.Equal(list, []int{1, 2, 3}) || r.End() != api.OK {
		t.Error(list, r.End())
	}
}

func TestListInList(t *testing.T) {
	lists := func(r *octet.Reader) [][]byte {
		return octet.List(r, 2, func(r *octet.Reader) []byte { return octet.List(r, 2, (*octet.Reader).Byte) })
	}
	r := octet.Read([]byte{0, 0, 0, 2, 0, 0, 0, 1, 1, 0, 0, 0, 2, 2, 3})
	if got := fmt.Sprint(lists(r)); got != "[[1] [2 3]]" || r.End() != api.OK {
		t.Error(got, r.End())
	}
	r = octet.Read([]byte{0, 0, 0, 2, 0, 0, 0, 1, 1, 0, 0, 0, 3, 2, 3, 4})
	if got := lists(r); len(got) != 0 {
		t.Error(got)
	}
	wantWrong(t, "lists", r)
}

// P1.3

func TestLeftAndEnd(t *testing.T) {
	r := octet.Read([]byte{1, 2})
	if r.Left() != 2 || r.End() != api.ErrForm {
		t.Error("two left")
	}
	r.Byte()
	if r.Left() != 1 || r.End() != api.ErrForm {
		t.Error("one left")
	}
	r.Byte()
	if r.Left() != 0 || r.End() != api.OK {
		t.Error("none left")
	}
	r = octet.Read(nil)
	if r.Left() != 0 || r.End() != api.OK {
		t.Error("nothing given")
	}
	r.Byte()
	wantWrong(t, "one too many", r)
}

func TestReaderMemory(t *testing.T) {
	given := []byte{0, 0, 0, 2, 1, 2, 0, 0, 0, 1, 3}
	was := slices.Clone(given)
	r := octet.Read(given)
	first := r.Bytes(9)
	first[0] = 8
	_ = append(first, 8, 8, 8, 8, 8)
	wantBytes(t, "what was handed in", given, was...)
	clear(given)
	wantBytes(t, "Bytes", r.Bytes(9), 3)
	wantBytes(t, "Bytes of before", first, 8, 2)
}

func TestListMemory(t *testing.T) {
	r := octet.Read([]byte{0, 0, 0, 2, 0, 0, 0, 1, 1, 0, 0, 0, 1, 2})
	list := octet.List(r, 2, func(r *octet.Reader) []byte { return r.Bytes(1) })
	_ = append(list[0], 9, 9, 9, 9, 9)
	list[0][0] = 9
	wantBytes(t, "the second thing", list[1], 2)
}

// P1 and P2

// take takes one thing of r: which one, and how much of it, stands in two bytes.
func take(r *octet.Reader, what, much byte) string {
	n := int(int8(much))
	switch what % 6 {
	case 0:
		return fmt.Sprint(r.Byte())
	case 1:
		return fmt.Sprint(r.Number(n))
	case 2:
		return fmt.Sprint(r.Int())
	case 3:
		return fmt.Sprint(r.Bytes(n))
	case 4:
		return fmt.Sprint(r.Flag())
	}
	return fmt.Sprint(octet.List(r, n, (*octet.Reader).Flag))
}

func takeAll(given, script []byte) string {
	r, told := octet.Read(given), ""
	for i := 0; i+1 < len(script); i += 2 {
		told += take(r, script[i], script[i+1]) + fmt.Sprintf(" %d %d;", r.Left(), r.End())
	}
	return told
}

func FuzzReaderEndsAlike(f *testing.F) {
	f.Add([]byte{0, 0, 0, 1, 1, 255, 255, 255, 255}, []byte{5, 9, 3, 127, 0, 0})
	f.Add([]byte{}, []byte{0, 0, 1, 200, 2, 2, 3, 128, 4, 4, 5, 255})
	for seed := range byte(64) {
		f.Add([]byte{0, 0, 0, seed % 4, 0, 1, 0, 0, 0, seed % 7, 1, 0, 1, seed}, []byte{seed, seed, seed / 6, 8, seed / 3, 3, seed / 2, 2})
	}
	f.Fuzz(func(t *testing.T, given, script []byte) {
		was := slices.Clone(given)
		first := takeAll(given, script)
		if second := takeAll(given, script); first != second {
			t.Errorf("%s, then %s", first, second)
		}
		wantBytes(t, "what was handed in", given, was...)
	})
}

func FuzzWriterIsRead(f *testing.F) {
	f.Add(byte(1), uint64(2), 3, -4, []byte{5}, true)
	f.Add(byte(255), uint64(math.MaxUint64), math.MinInt, math.MinInt, []byte{}, false)
	f.Add(byte(0), uint64(1)<<63, math.MaxInt, math.MaxInt, bytes.Repeat([]byte{7}, 300), false)
	f.Fuzz(func(t *testing.T, b byte, v uint64, n, i int, bs []byte, is bool) {
		write := func(w *octet.Writer) {
			w.Byte(b)
			w.Number(v, n)
			w.Int(i)
			w.Bytes(bs)
			w.Flag(is)
			octet.PutList(w, bs, (*octet.Writer).Byte)
		}
		all := put(write)
		wantBytes(t, "the same again", put(write), all...)
		size := min(max(n, 0), 8)
		fits := v
		if size < 8 {
			fits &= 1<<(8*size) - 1
		}
		r := octet.Read(all)
		if r.Byte() != b || r.Number(n) != fits || r.Int() != i || !bytes.Equal(r.Bytes(len(bs)), bs) || r.Flag() != is {
			t.Error("what was read isn't what was written")
		}
		if !bytes.Equal(octet.List(r, len(bs), (*octet.Reader).Byte), bs) || r.End() != api.OK {
			t.Error("the list that was read isn't the one that was written")
		}
	})
}
