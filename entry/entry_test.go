package entry_test

import (
	"bytes"
	"encoding/binary"
	"hash/crc32"
	"math"
	"math/rand"
	"slices"
	"testing"

	"tideline/api"
	"tideline/entry"
)

// The greatest number of an id, and how many bytes a Payload may have.
const (
	greatest = 1<<31 - 1
	longest  = 65536 - 30
)

// summed gives bytes with their sum behind, as layer 2 tells it.
func summed(parts ...[]byte) []byte {
	held := slices.Concat(parts...)
	return binary.BigEndian.AppendUint32(held, crc32.ChecksumIEEE(held))
}

// num gives a number as 4 bytes, whatever it is.
func num(n int) []byte { return binary.BigEndian.AppendUint32(nil, uint32(n)) }

// entryBytes is what the document says of an entry's bytes: of one that isn't right, what it would say.
func entryBytes(x api.Log) []byte {
	back := binary.BigEndian.AppendUint64(nil, uint64(x.Back))
	return summed([]byte{byte(x.Kind)}, num(x.Id.Client), num(x.Id.Birth), num(x.Id.Number), []byte{byte(x.Stream)}, back, num(len(x.Payload)), x.Payload)
}

func same(a, b api.Log) bool {
	return a.Kind == b.Kind && a.Id == b.Id && a.Stream == b.Stream && a.Back == b.Back && bytes.Equal(a.Payload, b.Payload)
}

// some gives so many bytes, all kinds of them.
func some(n int) []byte {
	b := make([]byte, n)
	for i := range b {
		b[i] = byte(i*i*7 + i>>8 + 3*n)
	}
	return b
}

// plain gives a right entry, to be changed.
func plain() api.Log {
	return api.Log{Kind: api.EntryCall, Id: api.Id{Client: 8, Birth: 1, Number: 258}, Stream: 3, Back: 5, Payload: []byte("xyz")}
}

// with gives plain, changed.
func with(change func(x *api.Log)) api.Log {
	x := plain()
	change(&x)
	return x
}

// rightOnes gives right entries: plain ones, and all edges.
func rightOnes() []api.Log {
	ones := []api.Log{
		plain(),
		{Kind: api.EntryCall},
		{Kind: api.EntrySnap},
		{Kind: api.EntrySnap, Id: api.Id{Client: greatest, Birth: greatest, Number: greatest}, Stream: 7, Back: 1 << 32, Payload: some(longest)},
		{Kind: api.EntryCall, Back: -1, Payload: some(longest - 1)},
	}
	for _, n := range []int{0, 1, 255, 256, 1 << 16, 1 << 24, greatest} {
		ones = append(ones, with(func(x *api.Log) { x.Id.Client = n }), with(func(x *api.Log) { x.Id.Birth = n }), with(func(x *api.Log) { x.Id.Number = n }))
	}
	for n := range 8 {
		ones = append(ones, with(func(x *api.Log) { x.Stream = n }))
	}
	for _, n := range []int{-1, 0, 1, 255, 1<<31 - 1, 1 << 31, 1<<32 - 1, 1 << 32} {
		ones = append(ones, with(func(x *api.Log) { x.Back = n }))
	}
	for _, n := range []int{0, 1, 2, 255, 256, 4096, longest - 1, longest} {
		ones = append(ones, with(func(x *api.Log) { x.Payload = some(n) }))
	}
	return ones
}

// wrongInBytes gives entries that aren't right, but whose numbers all have bytes that tell them.
func wrongInBytes() []api.Log {
	var ones []api.Log
	for _, n := range []int{0, 3, 4, 127, 128, 255} {
		ones = append(ones, with(func(x *api.Log) { x.Kind = n }))
	}
	for _, n := range []int{greatest + 1, 1<<32 - 1} {
		ones = append(ones, with(func(x *api.Log) { x.Id.Client = n }), with(func(x *api.Log) { x.Id.Birth = n }), with(func(x *api.Log) { x.Id.Number = n }))
	}
	for _, n := range []int{8, 9, 127, 128, 255} {
		ones = append(ones, with(func(x *api.Log) { x.Stream = n }))
	}
	for _, n := range []int{-2, -3, -256, math.MinInt, 1<<32 + 1, 1 << 33, 1 << 62, math.MaxInt} {
		ones = append(ones, with(func(x *api.Log) { x.Back = n }))
	}
	for _, n := range []int{longest + 1, longest + 2, 65536, 65537, 200000} {
		ones = append(ones, with(func(x *api.Log) { x.Payload = some(n) }))
	}
	return append(ones, api.Log{})
}

// wrongBeyond gives entries that aren't right, because of numbers that the bytes have no room for.
func wrongBeyond() []api.Log {
	var ones []api.Log
	for _, n := range []int{-1, -255, -256, 256, 257, 258, 1<<32 + 1, math.MinInt, math.MinInt + 1, math.MaxInt} {
		ones = append(ones, with(func(x *api.Log) { x.Kind = n }))
	}
	for _, n := range []int{-1, math.MinInt, 1 << 32, 1<<32 + 1, math.MaxInt} {
		ones = append(ones, with(func(x *api.Log) { x.Id.Client = n }), with(func(x *api.Log) { x.Id.Birth = n }), with(func(x *api.Log) { x.Id.Number = n }))
	}
	for _, n := range []int{-1, -8, -256, 256, 257, 1 << 32, math.MinInt, math.MaxInt} {
		ones = append(ones, with(func(x *api.Log) { x.Stream = n }))
	}
	return ones
}

func wantForm(t *testing.T, what string, b []byte) {
	t.Helper()
	if x, e := entry.Decode(b); e != api.ErrForm || !same(x, api.Log{}) {
		t.Errorf("%s: %#v, %d", what, x, e)
	}
}

// P7.1

func TestEncodeByHand(t *testing.T) {
	held := []byte{
		2,
		0, 0, 0, 8, 0, 0, 1, 2, 127, 255, 255, 255,
		7,
		255, 255, 255, 255, 255, 255, 255, 255,
		0, 0, 0, 3, 'x', 0, 'z',
	}
	x := api.Log{Kind: api.EntrySnap, Id: api.Id{Client: 8, Birth: 258, Number: greatest}, Stream: 7, Back: -1, Payload: []byte("x\x00z")}
	if b, e := entry.Encode(x); e != api.OK || !bytes.Equal(b, summed(held)) {
		t.Errorf("%#v, %d", b, e)
	}
	if got, e := entry.Decode(summed(held)); e != api.OK || !same(got, x) {
		t.Errorf("%#v, %d", got, e)
	}
}

func TestEncodeRight(t *testing.T) {
	for _, x := range rightOnes() {
		if b, e := entry.Encode(x); e != api.OK || !bytes.Equal(b, entryBytes(x)) {
			t.Errorf("%d, %+v, %d, %d, %d bytes: %d", x.Kind, x.Id, x.Stream, x.Back, len(x.Payload), e)
		}
		if got, e := entry.Decode(entryBytes(x)); e != api.OK || !same(got, x) {
			t.Errorf("%d, %+v, %d, %d, %d bytes: %+v, %d", x.Kind, x.Id, x.Stream, x.Back, len(x.Payload), got.Id, e)
		}
	}
}

// The sum is one of the bytes that an entry may have.
func TestEncodeMost(t *testing.T) {
	b, e := entry.Encode(with(func(x *api.Log) { x.Payload = some(longest) }))
	if e != api.OK || len(b) != 65536 {
		t.Errorf("%d bytes, %d", len(b), e)
	}
}

func TestEncodeWrong(t *testing.T) {
	for _, x := range slices.Concat(wrongInBytes(), wrongBeyond()) {
		if b, e := entry.Encode(x); e != api.ErrArg || len(b) != 0 {
			t.Errorf("%d, %+v, %d, %d, %d bytes: %d bytes, %d", x.Kind, x.Id, x.Stream, x.Back, len(x.Payload), len(b), e)
		}
	}
}

func TestDecodeWrong(t *testing.T) {
	for _, x := range wrongInBytes() {
		wantForm(t, "not right", entryBytes(x))
	}
}

func TestDecodeSpoiled(t *testing.T) {
	whole := entryBytes(plain())
	held := whole[:len(whole)-4]
	for i := range whole {
		for bit := range 8 {
			b := slices.Clone(whole)
			b[i] ^= 1 << bit
			wantForm(t, "a bit is turned", b)
		}
		wantForm(t, "cut", whole[:i])
	}
	for i := range held {
		wantForm(t, "cut, with a sum", summed(held[:i]))
		wantForm(t, "without its first bytes, with a sum", summed(held[i+1:]))
	}
	wantForm(t, "one byte more", append(slices.Clone(whole), 0))
	wantForm(t, "one byte more, with a sum", summed(held, []byte{0}))
	wantForm(t, "twice, with a sum", summed(held, held))
	wantForm(t, "a sum of the sum", summed(whole))
	wantForm(t, "without a sum", held)
	wantForm(t, "nothing", nil)
	wantForm(t, "nothing, with a sum", summed())
}

func TestDecodeCountThatLies(t *testing.T) {
	whole := entryBytes(plain())
	ahead := whole[:22]
	for _, n := range []int{0, 1, 2, 4, longest, longest + 1, 1 << 31, 1<<32 - 1} {
		wantForm(t, "how many bytes", summed(ahead, num(n), []byte("xyz")))
	}
	wantForm(t, "how many bytes, of many", summed(ahead, num(1<<32-1), some(longest)))
	if x, e := entry.Decode(summed(ahead, num(3), []byte("xyz"))); e != api.OK || !same(x, plain()) {
		t.Errorf("a count that doesn't: %#v, %d", x, e)
	}
}

func TestNoneAndNil(t *testing.T) {
	empty, e := entry.Encode(with(func(x *api.Log) { x.Payload = []byte{} }))
	none, again := entry.Encode(with(func(x *api.Log) { x.Payload = nil }))
	if e != api.OK || again != api.OK || !bytes.Equal(empty, none) {
		t.Errorf("%v, %v", empty, none)
	}
}

func TestMemory(t *testing.T) {
	room := []byte("abcdefgh")
	b, e := entry.Encode(with(func(x *api.Log) { x.Payload = room[:3] }))
	if e != api.OK || string(room) != "abcdefgh" {
		t.Errorf("what was handed in: %q, %d", room, e)
	}
	room[0] = 'x'
	was := slices.Clone(b)
	first, _ := entry.Decode(b)
	second, _ := entry.Decode(b)
	if string(first.Payload) != "abc" {
		t.Errorf("%#v", first)
	}
	first.Payload[0] = 'y'
	_ = append(first.Payload, "zzzzzz"...)
	if !bytes.Equal(b, was) || string(second.Payload) != "abc" {
		t.Error("two answers of Decode, or one and what was handed in, are one")
	}
	clear(b)
	if string(second.Payload) != "abc" {
		t.Errorf("what was handed in is kept: %#v", second)
	}
}

// P1 and P2

// wantRead looks whether Decode tells of bytes what the document does.
func wantRead(t *testing.T, b []byte) {
	t.Helper()
	was := slices.Clone(b)
	x, e := entry.Decode(b)
	if y, again := entry.Decode(b); e != again || !same(x, y) {
		t.Error("the same bytes, another entry")
	}
	if !bytes.Equal(b, was) {
		t.Error("what was handed in")
	}
	if e != api.OK {
		if e != api.ErrForm || !same(x, api.Log{}) || isEntry(b) {
			t.Errorf("%q: %#v, %d", b, x, e)
		}
		return
	}
	if !isEntry(b) || !bytes.Equal(entryBytes(x), b) {
		t.Errorf("%q: %#v", b, x)
	}
}

// isEntry is what the document says of the bytes of a right entry.
func isEntry(b []byte) bool {
	if len(b) < 30 || len(b) > 65536 || !bytes.Equal(summed(b[:len(b)-4]), b) {
		return false
	}
	id := b[1] < 128 && b[5] < 128 && b[9] < 128
	back := int64(binary.BigEndian.Uint64(b[14:]))
	return (b[0] == 1 || b[0] == 2) && id && b[13] < 8 && back >= -1 && back <= 1<<32 && int(binary.BigEndian.Uint32(b[22:])) == len(b)-30
}

// TestDecodeOfAlmost goes through bytes that are a few bytes away from an entry's, their sum made right again.
func TestDecodeOfAlmost(t *testing.T) {
	from := rand.New(rand.NewSource(7))
	edges := []byte{0, 1, 2, 3, 7, 8, 127, 128, 254, 255}
	for _, x := range rightOnes() {
		if len(x.Payload) > 300 {
			continue
		}
		whole := entryBytes(x)
		for range 300 {
			b := slices.Clone(whole[:len(whole)-4])
			for range from.Intn(3) {
				b[from.Intn(26)] = edges[from.Intn(len(edges))]
			}
			wantRead(t, summed(b))
		}
	}
}

func FuzzDecode(f *testing.F) {
	for _, x := range slices.Concat(rightOnes(), wrongInBytes()) {
		if b := entryBytes(x); len(b) < 1000 {
			f.Add(b[:len(b)-4])
		}
	}
	f.Add([]byte{})
	f.Fuzz(func(t *testing.T, held []byte) {
		wantRead(t, held)
		wantRead(t, summed(held))
	})
}

func FuzzEncode(f *testing.F) {
	for _, x := range slices.Concat(rightOnes(), wrongInBytes(), wrongBeyond()) {
		if len(x.Payload) < 1000 {
			f.Add(x.Kind, x.Id.Client, x.Id.Birth, x.Id.Number, x.Stream, x.Back, x.Payload)
		}
	}
	f.Fuzz(func(t *testing.T, kind, client, birth, number, stream, back int, payload []byte) {
		x := api.Log{Kind: kind, Id: api.Id{Client: client, Birth: birth, Number: number}, Stream: stream, Back: back, Payload: payload}
		b, e := entry.Encode(x)
		if again, code := entry.Encode(x); e != code || !bytes.Equal(b, again) {
			t.Error("the same entry, other bytes")
		}
		id := min(client, birth, number) >= 0 && max(client, birth, number) <= greatest
		right := (kind == 1 || kind == 2) && id && stream >= 0 && stream <= 7 && back >= -1 && back <= 1<<32 && len(payload) <= longest
		if right && (e != api.OK || !bytes.Equal(b, entryBytes(x))) || !right && (e != api.ErrArg || len(b) != 0) {
			t.Errorf("%#v: %#v, %d", x, b, e)
		}
	})
}
