package path_test

import (
	"fmt"
	"slices"
	"strings"
	"testing"

	"tideline/api"
	"tideline/path"
)

// The longest name, and one that is too long by a byte.
const (
	long    = "abcdefghijklmnop"
	tooLong = long + "q"
)

// isName is what the document says of a name, byte by byte.
func isName(s string) bool {
	for i := range len(s) {
		if s[i] == 47 || s[i] == 0 {
			return false
		}
	}
	return 1 <= len(s) && len(s) <= 16 && s != "." && s != ".."
}

// readPath is what the document says of a path, byte by byte: its names, and whether it is one.
func readPath(s string) ([]string, bool) {
	if s == "/" {
		return nil, true
	}
	var names []string
	for at := 0; at < len(s); {
		if s[at] != '/' {
			return nil, false
		}
		end := at + 1
		for end < len(s) && s[end] != '/' {
			end++
		}
		if !isName(s[at+1 : end]) {
			return nil, false
		}
		names = append(names, s[at+1:end])
		at = end
	}
	return names, 1 <= len(names) && len(names) <= 8
}

// deep gives a path of so many names.
func deep(n int) string { return strings.Repeat("/a", n) }

// goodPaths gives paths, each with its names.
func goodPaths() map[string][]string {
	longest := strings.Repeat("/"+long, 8)
	return map[string][]string{
		"/":                    nil,
		"/a":                   {"a"},
		"/a/b":                 {"a", "b"},
		"/b/a":                 {"b", "a"},
		"/a/a":                 {"a", "a"},
		"/" + long:             {long},
		"/...":                 {"..."},
		"/.a/..a/a./a..":       {".a", "..a", "a.", "a.."},
		"/ /\n":                {" ", "\n"},
		"/\x01/\xff\xfe/é/\\":  {"\x01", "\xff\xfe", "é", "\\"},
		"/a/b/c/d/e/f/g/h":     {"a", "b", "c", "d", "e", "f", "g", "h"},
		longest:                {long, long, long, long, long, long, long, long},
		"/" + long + "/a":      {long, "a"},
		"/a/" + long:           {"a", long},
		"/\xff\xff\xff/\xc0.":  {"\xff\xff\xff", "\xc0."},
		"/éééééééé/0123456789": {"éééééééé", "0123456789"},
	}
}

// badPaths gives texts that are no paths.
func badPaths() []string {
	return []string{
		"", "a", "a/b", "a/", ".", "..", "\x00", long, " /a", "\\a",
		"//", "///", "//a", "/a/", "/a//", "/a//b", "/a/b/", "//a/b",
		"/.", "/..", "/./a", "/../a", "/a/.", "/a/..", "/a/./b", "/a/../b",
		"/\x00", "/a\x00", "/\x00a", "/a/\x00", "/a/b\x00c", "/a\x00/b", "/a\x00b/c",
		"/" + tooLong, "/a/" + tooLong, "/" + tooLong + "/a", "/ééééééééa", "/" + strings.Repeat("a", 1000),
		deep(9), deep(8) + "/", deep(8) + "//", deep(10), deep(1000), strings.Repeat("/", 1000), strings.Repeat("/"+long, 9), deep(7) + "/" + tooLong, deep(7) + "/.", deep(7) + "/", "/." + deep(7),
	}
}

// P3.1

func TestName(t *testing.T) {
	for _, s := range []string{"a", "ab", long, "...", ".a", "..a", "a.", "a..", "a.b", " ", "\\", "\x01", "\xff", "\xff\xfe\x80", "é", "éééééééé", strings.Repeat(".", 16), strings.Repeat("\xff", 16)} {
		if !path.Name(s) {
			t.Errorf("%q is a name", s)
		}
	}
	for _, s := range []string{"", ".", "..", "/", "//", "a/", "/a", "a/b", "\x00", "a\x00", "\x00a", "a\x00b", tooLong, "ééééééééa", strings.Repeat("a", 1000), long[:15] + "/", long[:15] + "\x00", "\xff/", "\xff\x00", "./", "..\x00"} {
		if path.Name(s) {
			t.Errorf("%q is no name", s)
		}
	}
}

func TestNameOfEachByte(t *testing.T) {
	for x := range 256 {
		may := x != 0 && x != '/'
		one := string([]byte{byte(x)})
		if path.Name(one) != (may && one != ".") {
			t.Errorf("%q", one)
		}
		for at := range 16 {
			s := long[:at] + one + long[at+1:]
			if path.Name(s) != may {
				t.Errorf("%q", s)
			}
		}
	}
}

func TestNameOfEachLength(t *testing.T) {
	for n := range 64 {
		if s := strings.Repeat("é", n/2) + strings.Repeat("a", n%2); path.Name(s) != (1 <= n && n <= 16) {
			t.Errorf("%d bytes", n)
		}
	}
}

func TestSplit(t *testing.T) {
	for s, want := range goodPaths() {
		if names, e := path.Split(s); e != api.OK || !slices.Equal(names, want) {
			t.Errorf("%q: %q, %d", s, names, e)
		}
	}
	for n := 1; n <= 8; n++ {
		if names, e := path.Split(deep(n)); e != api.OK || len(names) != n {
			t.Errorf("%d names: %q, %d", n, names, e)
		}
	}
}

func TestSplitNoPath(t *testing.T) {
	for _, s := range badPaths() {
		if names, e := path.Split(s); e != api.ErrName || len(names) != 0 {
			t.Errorf("%q: %q, %d", s, names, e)
		}
	}
}

func TestJoin(t *testing.T) {
	for want, names := range goodPaths() {
		if s := path.Join(names); s != want {
			t.Errorf("%q: %q", names, s)
		}
	}
	if s := path.Join([]string{}); s != "/" {
		t.Errorf("no names: %q", s)
	}
}

func TestJoinOfWhateverTheyAre(t *testing.T) {
	for _, x := range []struct {
		names []string
		want  string
	}{
		{[]string{""}, "/"},
		{[]string{"", ""}, "//"},
		{[]string{"", "a", ""}, "//a/"},
		{[]string{"/"}, "//"},
		{[]string{"/a", "b/"}, "//a/b/"},
		{[]string{".", ".."}, "/./.."},
		{[]string{"a\x00b", tooLong}, "/a\x00b/" + tooLong},
		{strings.Split(strings.Repeat("a", 20), ""), deep(20)},
	} {
		if s := path.Join(x.names); s != x.want {
			t.Errorf("%q: %q", x.names, s)
		}
	}
}

func TestMemory(t *testing.T) {
	first, _ := path.Split("/a/b")
	second, _ := path.Split("/a/b")
	first[0] = "x"
	_ = append(first[:1], "y", "z")
	if !slices.Equal(second, []string{"a", "b"}) {
		t.Errorf("Split, twice: %q", second)
	}
	room := []string{"a", "b", "c"}
	path.Join(room[:2])
	path.Join(room[:0])
	if !slices.Equal(room, []string{"a", "b", "c"}) {
		t.Errorf("what was handed in: %q", room)
	}
}

// P3.2

func TestParentExample(t *testing.T) {
	if above, name, e := path.Parent("/a/b"); above != "/a" || name != "b" || e != api.OK {
		t.Errorf("%q, %q, %d", above, name, e)
	}
}

func TestParent(t *testing.T) {
	for _, x := range [][3]string{
		{"/a", "/", "a"},
		{"/" + long, "/", long},
		{"/b/a/c", "/b/a", "c"},
		{"/a/a", "/a", "a"},
		{"/\xff/\xfe", "/\xff", "\xfe"},
		{"/.../..a", "/...", "..a"},
		{deep(7) + "/z", deep(7), "z"},
	} {
		if above, name, e := path.Parent(x[0]); above != x[1] || name != x[2] || e != api.OK {
			t.Errorf("%q: %q, %q, %d", x[0], above, name, e)
		}
	}
}

func TestParentOfNone(t *testing.T) {
	for _, s := range append(badPaths(), "/") {
		if above, name, e := path.Parent(s); above != "" || name != "" || e != api.ErrName {
			t.Errorf("%q: %q, %q, %d", s, above, name, e)
		}
	}
}

func TestInside(t *testing.T) {
	for _, x := range [][2]string{
		{"/a", "/"}, {"/a/b", "/"}, {"/a/b", "/a"}, {"/a/b/c", "/a"}, {"/a/b/c", "/a/b"}, {"/a/a", "/a"},
		{deep(8), "/"}, {deep(8), deep(7)}, {"/" + long + "/a", "/" + long}, {"/\xff/a", "/\xff"},
	} {
		if !path.Inside(x[0], x[1]) {
			t.Errorf("%q is inside %q", x[0], x[1])
		}
		if path.Inside(x[1], x[0]) {
			t.Errorf("%q isn't inside %q", x[1], x[0])
		}
	}
	for _, x := range [][2]string{
		{"/a", "/b"}, {"/a/b", "/b"}, {"/a/b", "/a/c"}, {"/ab", "/a"}, {"/ab/c", "/a"}, {"/a/b", "/ab"}, {"/a/bc", "/a/b"},
		{"/b/a", "/a"}, {"/a/b/c", "/b"}, {"/a/b/c", "/a/c"}, {"/a/b/c", "/b/c"}, {"/A/b", "/a"}, {"/\xff/a", "/\xfe"},
	} {
		if path.Inside(x[0], x[1]) || path.Inside(x[1], x[0]) {
			t.Errorf("%q and %q: neither is inside the other", x[0], x[1])
		}
	}
}

func TestInsideOfItself(t *testing.T) {
	for s := range goodPaths() {
		if path.Inside(s, s) {
			t.Errorf("%q", s)
		}
	}
}

func TestInsideOfNoPaths(t *testing.T) {
	for _, s := range badPaths() {
		for _, other := range []string{"/", "/a", "/a/b", deep(7), s, s + "/a", s + "/"} {
			if path.Inside(s, other) || path.Inside(other, s) {
				t.Errorf("%q and %q", s, other)
			}
		}
	}
}

// P1 and P2

func told(s, other string) string {
	names, e := path.Split(s)
	above, name, code := path.Parent(s)
	return fmt.Sprintf("%t %q %d %q %q %q %d %t", path.Name(s), names, e, path.Join(names), above, name, code, path.Inside(s, other))
}

// want is what told must tell, by the document alone.
func want(s, other string) string {
	names, is := readPath(s)
	if !is {
		return fmt.Sprintf("%t [] %d %q %q %q %d false", isName(s), api.ErrName, "/", "", "", api.ErrName)
	}
	above, name, code := "", "", api.ErrName
	if last := len(names) - 1; last >= 0 {
		above, name, code = "/", names[last], api.OK
		if last > 0 {
			above = s[:len(s)-len(name)-1]
		}
	}
	first, inside := readPath(other)
	inside = inside && len(names) > len(first)
	for i := 0; inside && i < len(first); i++ {
		inside = names[i] == first[i]
	}
	return fmt.Sprintf("%t %q %d %q %q %q %d %t", isName(s), names, api.OK, s, above, name, code, inside)
}

func check(t *testing.T, s, other string) {
	t.Helper()
	got := told(s, other)
	if got != want(s, other) {
		t.Errorf("%q and %q: %s, not %s", s, other, got, want(s, other))
	}
	if again := told(strings.Clone(s), strings.Clone(other)); got != again {
		t.Errorf("%q and %q: %s, then %s", s, other, got, again)
	}
}

// TestAllShortTexts goes through all texts of up to six of the bytes that tell apart what is a path.
func TestAllShortTexts(t *testing.T) {
	var texts []string
	var grow func(s string)
	grow = func(s string) {
		texts = append(texts, s)
		if len(s) < 6 {
			for _, b := range []string{"/", ".", "a", "\x00", "\xff"} {
				grow(s + b)
			}
		}
	}
	grow("")
	for _, s := range texts {
		for _, other := range []string{"", "/", "/a", "/a/a", "/.a", "/a/", "a", s} {
			check(t, s, other)
		}
	}
}

func FuzzAlike(f *testing.F) {
	texts := badPaths()
	for s := range goodPaths() {
		texts = append(texts, s)
	}
	for _, s := range texts {
		for _, other := range texts {
			f.Add(s, other)
		}
	}
	f.Fuzz(check)
}
