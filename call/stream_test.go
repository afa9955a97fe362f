package call_test

import (
	"fmt"
	"hash/crc32"
	"math"
	"strings"
	"testing"

	"tideline/api"
	"tideline/call"
)

// long is the longest name.
const long = "abcdefghijklmnop"

// streamOf is what the document says of the stream of a first name.
func streamOf(name string) int { return 1 + int(crc32.ChecksumIEEE([]byte(name))%7) }

// kinds gives all kinds of calls, and some that are none.
func kinds() []int {
	all := []int{math.MinInt, -244, -1, 13, 255, 256 + api.CallLink, 256 + api.CallRename, 256 + api.CallSync, 1<<32 + api.CallSync, math.MaxInt}
	for kind := range 13 {
		all = append(all, kind)
	}
	return all
}

func two(kind int) bool { return kind == api.CallLink || kind == api.CallRename }

func wantStream(t *testing.T, c api.Call, want int) {
	t.Helper()
	if got := call.Stream(c); got != want {
		t.Errorf("%#v: %d, not %d", c, got, want)
	}
}

// noFirstName gives texts that are no paths, and the path that has no first name.
func noFirstName() []string {
	return []string{
		"/", "", "a", "a/b", "//", "//a", "/a/", "/a//b", "/.", "/..", "/a/.", "/a/..", "/./a", "/a\x00", "\x00", " /a",
		"/" + long + "q", "/a/" + long + "q", strings.Repeat("/a", 9), strings.Repeat("/a", 8) + "/",
	}
}

// P5.2

func TestStreamByHand(t *testing.T) {
	// The sums of a, b and abc, by hand: e8b7be43, 71beeff9, 352441c2 (hexadecimal).
	wantStream(t, api.Call{Kind: api.CallMkdir, Path: "/a"}, 1+0xe8b7be43%7)
	wantStream(t, api.Call{Kind: api.CallMkdir, Path: "/b"}, 1+0x71beeff9%7)
	wantStream(t, api.Call{Kind: api.CallMkdir, Path: "/abc"}, 1+0x352441c2%7)
}

func TestStreamIsOfTheFirstName(t *testing.T) {
	names := []string{"a", "b", "ab", "...", ".a", " ", "\xff\xfe", "é", long}
	behind := []string{"", "/a", "/b", "/" + long, "/a/b/c/d/e/f/g"}
	for _, kind := range kinds() {
		for _, name := range names {
			for _, rest := range behind {
				want := streamOf(name)
				if kind == api.CallSync {
					want = 0
				}
				wantStream(t, api.Call{Kind: kind, Path: "/" + name + rest, Other: "/" + name + "/z", Off: -1, N: 7, Data: []byte("x")}, want)
				wantStream(t, api.Call{Kind: kind, Path: "/" + name + rest, Other: "/" + name}, want)
			}
		}
	}
}

func TestStreamsAreAllSeven(t *testing.T) {
	seen := [8]int{}
	for i := range 700 {
		name := fmt.Sprint("n", i)
		c := api.Call{Kind: api.CallCreate, Path: "/" + name}
		wantStream(t, c, streamOf(name))
		seen[call.Stream(c)]++
	}
	for s, n := range seen {
		if (n == 0) != (s == 0) {
			t.Errorf("stream %d: %d times", s, n)
		}
	}
}

func TestStreamOfSync(t *testing.T) {
	for _, path := range append(noFirstName(), "/a", "/a/b") {
		wantStream(t, api.Call{Kind: api.CallSync, Path: path}, 0)
		wantStream(t, api.Call{Kind: api.CallSync, Path: path, Other: "/a"}, 0)
	}
}

func TestStreamWithoutFirstName(t *testing.T) {
	for _, kind := range kinds() {
		for _, path := range noFirstName() {
			wantStream(t, api.Call{Kind: kind, Path: path}, 0)
			wantStream(t, api.Call{Kind: kind, Path: path, Other: "/a"}, 0)
			wantStream(t, api.Call{Kind: kind, Path: path, Other: path}, 0)
		}
	}
}

// Other is looked at for CallLink and CallRename alone.
func TestStreamByOther(t *testing.T) {
	others := append(noFirstName(), "/b", "/ab", "/A", "/b/a", "/b/a/c", "/"+long)
	for _, kind := range kinds() {
		for _, other := range others {
			want := streamOf("a")
			if kind == api.CallSync || two(kind) {
				want = 0
			}
			wantStream(t, api.Call{Kind: kind, Path: "/a", Other: other}, want)
			wantStream(t, api.Call{Kind: kind, Path: "/a/b", Other: other}, want)
		}
	}
}

// Two first names that have one stream are still two.
func TestStreamOfTwoNamesOfOneStream(t *testing.T) {
	for i := range 100 {
		name := fmt.Sprint("n", i)
		if streamOf(name) != streamOf("a") {
			continue
		}
		wantStream(t, api.Call{Kind: api.CallRename, Path: "/a", Other: "/" + name}, 0)
		wantStream(t, api.Call{Kind: api.CallLink, Path: "/" + name + "/b", Other: "/a/b"}, 0)
		wantStream(t, api.Call{Kind: api.CallWrite, Path: "/" + name, Other: "/a"}, streamOf(name))
	}
}
