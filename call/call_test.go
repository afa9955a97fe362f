package call_test

import (
	"bytes"
	"encoding/binary"
	"hash/crc32"
	"math"
	"slices"
	"strings"
	"testing"

	"tideline/api"
	"tideline/call"
)

// summed gives bytes with their sum behind, as layer 2 tells it.
func summed(parts ...[]byte) []byte {
	held := slices.Concat(parts...)
	return binary.BigEndian.AppendUint32(held, crc32.ChecksumIEEE(held))
}

// num gives an int as bytes, text a text.
func num(n int) []byte     { return binary.BigEndian.AppendUint64(nil, uint64(n)) }
func text(s string) []byte { return append(binary.BigEndian.AppendUint32(nil, uint32(len(s))), s...) }

// list gives a list of texts as bytes.
func list(names ...string) []byte {
	b := binary.BigEndian.AppendUint32(nil, uint32(len(names)))
	for _, name := range names {
		b = append(b, text(name)...)
	}
	return b
}

// callBytes is what the document says of a call's bytes, and answerBytes of an answer's.
func callBytes(c api.Call) []byte {
	kind := ((c.Kind % 256) + 256) % 256
	return summed([]byte{byte(kind)}, text(c.Path), text(c.Other), num(c.Off), num(c.N), text(string(c.Data)))
}

func answerBytes(a api.Answer) []byte {
	return summed(num(int(a.Err)), num(a.Kind), num(a.Size), num(a.Links), text(string(a.Data)), list(a.Names...))
}

func sameCall(a, b api.Call) bool {
	return a.Kind == b.Kind && a.Path == b.Path && a.Other == b.Other && a.Off == b.Off && a.N == b.N && bytes.Equal(a.Data, b.Data)
}

func sameAnswer(a, b api.Answer) bool {
	return a.Err == b.Err && a.Kind == b.Kind && a.Size == b.Size && a.Links == b.Links && bytes.Equal(a.Data, b.Data) && slices.Equal(a.Names, b.Names)
}

// some gives so many bytes, all kinds of them.
func some(n int) []byte {
	b := make([]byte, n)
	for i := range b {
		b[i] = byte(i*i*7 + i>>8 + 3*n)
	}
	return b
}

// many gives so many names, of so many bytes each.
func many(n, size int) []string { return slices.Repeat([]string{string(some(size))}, n) }

// goodCalls gives calls that are what their bytes decode to.
func goodCalls() []api.Call {
	calls := []api.Call{
		{},
		{Kind: api.CallMkdir, Path: "/a"},
		{Kind: api.CallRename, Path: "/a/b", Other: "/a/c"},
		{Kind: api.CallWrite, Path: "/a", Off: 2, Data: []byte("xyz")},
		{Kind: api.CallRead, Path: "/a", Off: -1, N: 256},
		{Kind: api.CallSync},
		{Path: "no path", Other: "\x00\xff/\xfe\n"},
		{Path: string(some(300)), Other: string(some(299)), Data: some(4095)},
		{Path: string(some(299)), Other: string(some(300)), Data: some(4096)},
		{Off: math.MinInt, N: math.MaxInt},
		{Off: math.MaxInt, N: math.MinInt},
		{Data: []byte{0}},
	}
	for kind := range 256 {
		calls = append(calls, api.Call{Kind: kind, Path: "/a", Other: "/b", Off: kind, N: -kind})
	}
	return calls
}

// goodAnswers gives answers that are what their bytes decode to.
func goodAnswers() []api.Answer {
	return []api.Answer{
		{},
		{Err: api.ErrTimeout},
		{Err: math.MinInt, Kind: math.MaxInt, Size: math.MinInt, Links: math.MaxInt},
		{Err: math.MaxInt, Kind: -1, Size: -2, Links: -3},
		{Kind: api.File, Size: 512, Links: 2},
		{Data: []byte("xyz")},
		{Names: []string{"a", "b"}},
		{Names: []string{"", "", "\x00\xff/", "b", "a"}},
		{Err: 1, Kind: 2, Size: 3, Links: 4, Data: []byte{5}, Names: []string{"6"}},
		{Data: some(4096), Names: many(64, 300)},
		{Data: some(4095), Names: many(63, 299)},
		{Names: many(64, 0)},
	}
}

// P5.1

func TestEncodeByHand(t *testing.T) {
	held := []byte{
		7,
		0, 0, 0, 4, '/', 'a', '/', 'b',
		0, 0, 0, 2, '/', 'c',
		0, 0, 0, 0, 0, 0, 1, 2,
		255, 255, 255, 255, 255, 255, 255, 254,
		0, 0, 0, 3, 'x', 0, 'z',
	}
	got := call.Encode(api.Call{Kind: api.CallWrite, Path: "/a/b", Other: "/c", Off: 258, N: -2, Data: []byte("x\x00z")})
	if !bytes.Equal(got, summed(held)) {
		t.Errorf("%#v", got)
	}
	if got := call.Encode(api.Call{}); !bytes.Equal(got, summed(make([]byte, 29))) {
		t.Errorf("the zero call: %#v", got)
	}
}

func TestEncodeAnswerByHand(t *testing.T) {
	held := []byte{
		0, 0, 0, 0, 0, 0, 0, 30,
		0, 0, 0, 0, 0, 0, 0, 2,
		0, 0, 0, 0, 0, 0, 1, 2,
		255, 255, 255, 255, 255, 255, 255, 254,
		0, 0, 0, 2, 'x', 0,
		0, 0, 0, 3,
		0, 0, 0, 1, 'b',
		0, 0, 0, 0,
		0, 0, 0, 2, 'a', '/',
	}
	got := call.EncodeAnswer(api.Answer{Err: api.ErrTimeout, Kind: api.File, Size: 258, Links: -2, Data: []byte("x\x00"), Names: []string{"b", "", "a/"}})
	if !bytes.Equal(got, summed(held)) {
		t.Errorf("%#v", got)
	}
	if got := call.EncodeAnswer(api.Answer{}); !bytes.Equal(got, summed(make([]byte, 40))) {
		t.Errorf("the zero answer: %#v", got)
	}
}

func TestEncodeKindModulo256(t *testing.T) {
	kinds := []struct {
		kind int
		byte byte
	}{{0, 0}, {1, 1}, {255, 255}, {256, 0}, {257, 1}, {511, 255}, {1<<32 + 5, 5}, {-1, 255}, {-255, 1}, {-256, 0}, {-257, 255}, {math.MaxInt, 255}, {math.MinInt, 0}}
	for _, x := range kinds {
		got := call.Encode(api.Call{Kind: x.kind, Path: "/a"})
		if got[0] != x.byte || !bytes.Equal(got, call.Encode(api.Call{Kind: int(x.byte), Path: "/a"})) {
			t.Errorf("%d: %#v", x.kind, got)
		}
		if c, e := call.Decode(got); e != api.OK || c.Kind != int(x.byte) {
			t.Errorf("%d: %#v, %d", x.kind, c, e)
		}
	}
}

// Encode gives bytes of whatever call, and EncodeAnswer of whatever answer, too great to be decoded or not.
func TestEncodeAny(t *testing.T) {
	for _, c := range slices.Concat(goodCalls(), tooGreatCalls()) {
		if !bytes.Equal(call.Encode(c), callBytes(c)) {
			t.Errorf("%#v", c)
		}
	}
	for _, a := range slices.Concat(goodAnswers(), tooGreatAnswers()) {
		if !bytes.Equal(call.EncodeAnswer(a), answerBytes(a)) {
			t.Errorf("%#v", a)
		}
	}
}

func TestDecodeOfEncode(t *testing.T) {
	for _, c := range goodCalls() {
		if got, e := call.Decode(callBytes(c)); e != api.OK || !sameCall(got, c) {
			t.Errorf("%#v: %#v, %d", c, got, e)
		}
	}
	for _, a := range goodAnswers() {
		if got, e := call.DecodeAnswer(answerBytes(a)); e != api.OK || !sameAnswer(got, a) {
			t.Errorf("%#v: %#v, %d", a, got, e)
		}
	}
}

func tooGreatCalls() []api.Call {
	return []api.Call{
		{Path: string(some(301))},
		{Other: string(some(301))},
		{Data: some(4097)},
		{Path: string(some(5000)), Other: string(some(70000)), Data: some(70001)},
	}
}

func tooGreatAnswers() []api.Answer {
	longLast := append(many(63, 300), string(some(301)))
	longFirst := append([]string{string(some(301))}, "a")
	return []api.Answer{
		{Data: some(4097)},
		{Data: some(70000)},
		{Names: many(65, 1)},
		{Names: many(65, 0)},
		{Names: many(1000, 2)},
		{Names: longLast},
		{Names: longFirst},
	}
}

// wantNoCall: bytes are no call's; wantNoAnswer: no answer's.
func wantNoCall(t *testing.T, what string, b []byte) {
	t.Helper()
	if c, e := call.Decode(b); e != api.ErrForm || !sameCall(c, api.Call{}) {
		t.Errorf("%s: %#v, %d", what, c, e)
	}
}

func wantNoAnswer(t *testing.T, what string, b []byte) {
	t.Helper()
	if a, e := call.DecodeAnswer(b); e != api.ErrForm || !sameAnswer(a, api.Answer{}) {
		t.Errorf("%s: %#v, %d", what, a, e)
	}
}

func TestDecodeTooGreat(t *testing.T) {
	for _, c := range tooGreatCalls() {
		wantNoCall(t, "too great", callBytes(c))
	}
	for _, a := range tooGreatAnswers() {
		wantNoAnswer(t, "too great", answerBytes(a))
	}
}

// spoil hands over bytes that are whole no more: with and without a sum that is right again.
func spoil(whole []byte, no func(string, []byte)) {
	held := whole[:len(whole)-4]
	for i := range whole {
		for bit := range 8 {
			b := slices.Clone(whole)
			b[i] ^= 1 << bit
			no("a bit is turned", b)
		}
		no("cut", whole[:i])
	}
	for i := range held {
		no("cut, with a sum", summed(held[:i]))
		no("without its first bytes, with a sum", summed(held[i+1:]))
	}
	no("one byte more", append(slices.Clone(whole), 0))
	no("one byte more, with a sum", summed(held, []byte{0}))
	no("twice, with a sum", summed(held, held))
	no("a sum of the sum", summed(whole))
	no("without a sum", held)
	no("nothing", nil)
	no("nothing, with a sum", summed())
}

func TestDecodeSpoiled(t *testing.T) {
	spoil(callBytes(api.Call{Kind: 7, Path: "/a/b", Other: "/c", Off: 258, N: -2, Data: []byte("xyz")}), func(what string, b []byte) { wantNoCall(t, what, b) })
	spoil(answerBytes(api.Answer{Err: 1, Kind: 2, Size: 3, Links: 4, Data: []byte("xyz"), Names: []string{"a", "bc"}}), func(what string, b []byte) { wantNoAnswer(t, what, b) })
}

func TestDecodeTellsOneFromTheOther(t *testing.T) {
	for _, c := range goodCalls() {
		wantNoAnswer(t, "a call", callBytes(c))
	}
	for _, a := range goodAnswers() {
		wantNoCall(t, "an answer", answerBytes(a))
	}
}

func TestDecodeCountsThatLie(t *testing.T) {
	most := []byte{255, 255, 255, 255}
	wantNoCall(t, "Path", summed([]byte{1}, most, make([]byte, 300)))
	wantNoCall(t, "Other", summed([]byte{1}, text("/a"), most, make([]byte, 300)))
	wantNoCall(t, "Data", summed([]byte{1}, text("/a"), text(""), num(0), num(0), most, make([]byte, 4096)))
	wantNoCall(t, "Data, by one", summed([]byte{1}, text("/a"), text(""), num(0), num(0), []byte{0, 0, 0, 3, 1, 2}))
	numbers := make([]byte, 32)
	wantNoAnswer(t, "Data", summed(numbers, most, make([]byte, 4096)))
	wantNoAnswer(t, "Names", summed(numbers, text(""), most, make([]byte, 4096)))
	wantNoAnswer(t, "Names, by one", summed(numbers, text(""), []byte{0, 0, 0, 2}, text("a")))
	wantNoAnswer(t, "a name", summed(numbers, text(""), []byte{0, 0, 0, 1}, most, make([]byte, 300)))
}

func TestNoneAndNil(t *testing.T) {
	if !bytes.Equal(call.Encode(api.Call{Data: []byte{}}), call.Encode(api.Call{})) {
		t.Error("Data without bytes")
	}
	if !bytes.Equal(call.EncodeAnswer(api.Answer{Data: []byte{}, Names: []string{}}), call.EncodeAnswer(api.Answer{})) {
		t.Error("Data without bytes, Names without names")
	}
}

func TestMemory(t *testing.T) {
	room, nameRoom := []byte("abcdefgh"), []string{"a", "b", "c"}
	encoded := call.Encode(api.Call{Data: room[:3]})
	answer := call.EncodeAnswer(api.Answer{Data: room[:3], Names: nameRoom[:1]})
	if string(room) != "abcdefgh" || strings.Join(nameRoom, "") != "abc" {
		t.Errorf("what was handed in: %q, %q", room, nameRoom)
	}
	room[0], nameRoom[0] = 'x', "x"
	c, e := call.Decode(encoded)
	a, again := call.DecodeAnswer(answer)
	if e != api.OK || again != api.OK || string(c.Data) != "abc" || string(a.Data) != "abc" || a.Names[0] != "a" {
		t.Errorf("%#v, %#v", c, a)
	}
	wasEncoded, wasAnswer := slices.Clone(encoded), slices.Clone(answer)
	c.Data[0], a.Data[0] = 'y', 'y'
	_ = append(c.Data, "zzzzzz"...)
	_ = append(a.Data, "zzzzzz"...)
	if !bytes.Equal(encoded, wasEncoded) || !bytes.Equal(answer, wasAnswer) {
		t.Error("what was handed in")
	}
	if c, _ := call.Decode(encoded); string(c.Data) != "abc" {
		t.Errorf("decoded anew: %#v", c)
	}
	if a, _ := call.DecodeAnswer(answer); string(a.Data) != "abc" {
		t.Errorf("decoded anew: %#v", a)
	}
	clear(encoded)
	clear(answer)
	if string(c.Data) != "ybc" || string(a.Data) != "ybc" || a.Names[0] != "a" {
		t.Errorf("what was answered: %#v, %#v", c, a)
	}
}

// P1 and P2

func FuzzDecode(f *testing.F) {
	for _, c := range goodCalls()[:12] {
		f.Add(callBytes(c)[:len(callBytes(c))-4])
	}
	for _, a := range goodAnswers() {
		f.Add(answerBytes(a)[:len(answerBytes(a))-4])
	}
	f.Add([]byte{})
	f.Add([]byte{1, 2, 3})
	f.Fuzz(func(t *testing.T, held []byte) {
		for _, b := range [][]byte{held, summed(held)} {
			was := slices.Clone(b)
			c, e := call.Decode(b)
			if d, again := call.Decode(slices.Clone(b)); e != again || !sameCall(c, d) {
				t.Error("the same bytes, another call")
			}
			fits := len(c.Path) <= 300 && len(c.Other) <= 300 && len(c.Data) <= 4096
			if e == api.OK && !(fits && bytes.Equal(callBytes(c), b)) || e != api.OK && (e != api.ErrForm || !sameCall(c, api.Call{})) {
				t.Errorf("%#v, %d", c, e)
			}
			a, e := call.DecodeAnswer(b)
			if d, again := call.DecodeAnswer(slices.Clone(b)); e != again || !sameAnswer(a, d) {
				t.Error("the same bytes, another answer")
			}
			long := func(name string) bool { return len(name) > 300 }
			fits = len(a.Data) <= 4096 && len(a.Names) <= 64 && !slices.ContainsFunc(a.Names, long)
			if e == api.OK && !(fits && bytes.Equal(answerBytes(a), b)) || e != api.OK && (e != api.ErrForm || !sameAnswer(a, api.Answer{})) {
				t.Errorf("%#v, %d", a, e)
			}
			if !bytes.Equal(b, was) {
				t.Error("what was handed in")
			}
		}
	})
}

func FuzzEncode(f *testing.F) {
	f.Add(1, "/a", "/b", 2, 3, []byte("xyz"))
	f.Add(-1, "", "\xff", math.MinInt, math.MaxInt, []byte{})
	f.Add(300, string(some(300)), string(some(301)), -1, 1<<40, some(4096))
	f.Fuzz(func(t *testing.T, kind int, one, other string, off, n int, data []byte) {
		c := api.Call{Kind: kind, Path: one, Other: other, Off: off, N: n, Data: data}
		b := call.Encode(c)
		if !bytes.Equal(b, callBytes(c)) || !bytes.Equal(b, call.Encode(c)) {
			t.Errorf("%#v", b)
		}
		got, e := call.Decode(b)
		fits := len(one) <= 300 && len(other) <= 300 && len(data) <= 4096
		c.Kind = int(b[0])
		if fits && (e != api.OK || !sameCall(got, c)) || !fits && (e != api.ErrForm || !sameCall(got, api.Call{})) {
			t.Errorf("%#v, %d", got, e)
		}
		a := api.Answer{Err: api.Errno(kind), Kind: off, Size: n, Links: -n, Data: data, Names: []string{one, other}}
		if b := call.EncodeAnswer(a); !bytes.Equal(b, answerBytes(a)) || !bytes.Equal(b, call.EncodeAnswer(a)) {
			t.Errorf("%#v", b)
		}
		if got, e := call.DecodeAnswer(call.EncodeAnswer(a)); fits && (e != api.OK || !sameAnswer(got, a)) || !fits && (e != api.ErrForm || !sameAnswer(got, api.Answer{})) {
			t.Errorf("%#v, %d", got, e)
		}
		if s := call.Stream(c); s < 0 || s > 7 || s != call.Stream(c) {
			t.Errorf("%#v: %d", c, s)
		}
	})
}
