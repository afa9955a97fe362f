package tree_test

import (
	"bytes"
	"math"
	"math/rand"
	"slices"
	"strconv"
	"strings"
	"testing"

	"tideline/api"
	"tideline/tree"
)

// Calls, written shortly.

func mkdir(s string) api.Call  { return api.Call{Kind: api.CallMkdir, Path: s} }
func rmdir(s string) api.Call  { return api.Call{Kind: api.CallRmdir, Path: s} }
func create(s string) api.Call { return api.Call{Kind: api.CallCreate, Path: s} }
func unlink(s string) api.Call { return api.Call{Kind: api.CallUnlink, Path: s} }
func list(s string) api.Call   { return api.Call{Kind: api.CallList, Path: s} }
func stat(s string) api.Call   { return api.Call{Kind: api.CallStat, Path: s} }
func link(s, other string) api.Call {
	return api.Call{Kind: api.CallLink, Path: s, Other: other}
}
func rename(s, other string) api.Call {
	return api.Call{Kind: api.CallRename, Path: s, Other: other}
}
func write(s string, off int, data string) api.Call {
	return api.Call{Kind: api.CallWrite, Path: s, Off: off, Data: []byte(data)}
}
func read(s string, off, n int) api.Call {
	return api.Call{Kind: api.CallRead, Path: s, Off: off, N: n}
}
func cut(s string, n int) api.Call { return api.Call{Kind: api.CallCut, Path: s, N: n} }

// grown gives a tree on which calls were done, each of them rightly.
func grown(t *testing.T, calls ...api.Call) *tree.Tree {
	t.Helper()
	r := tree.New()
	for _, c := range calls {
		if a := r.Do(c); !sameAnswer(a, api.Answer{}) {
			t.Fatalf("%+v: %+v", c, a)
		}
	}
	return r
}

// sample gives a tree with directories, files, links and bytes: /d/e/f is /d/g, too.
func sample(t *testing.T) *tree.Tree {
	t.Helper()
	return grown(t, mkdir("/d"), mkdir("/d/e"), create("/d/e/f"), link("/d/e/f", "/d/g"), create("/h"), write("/h", 0, "abc"), mkdir("/i"), write("/d/g", 2, "z"))
}

// answers looks at what a call is answered, and that it changes nothing with an error.
func answers(t *testing.T, r *tree.Tree, c api.Call, want api.Answer) {
	t.Helper()
	ahead := r.Nodes()
	if a := r.Do(c); !sameAnswer(a, want) {
		t.Errorf("%+v: %+v, not %+v", c, a, want)
	}
	if want.Err != api.OK && !sameNodes(r.Nodes(), ahead) {
		t.Errorf("%+v: changed with an error: %+v", c, r.Nodes())
	}
}

func fails(t *testing.T, r *tree.Tree, code api.Errno, calls ...api.Call) {
	t.Helper()
	for _, c := range calls {
		answers(t, r, c, api.Answer{Err: code})
	}
}

func has(t *testing.T, r *tree.Tree, s string, names ...string) {
	t.Helper()
	answers(t, r, list(s), api.Answer{Names: names})
}

func holds(t *testing.T, r *tree.Tree, s, data string) {
	t.Helper()
	answers(t, r, stat(s), api.Answer{Kind: api.File, Size: len(data), Links: r.Do(stat(s)).Links})
	answers(t, r, read(s, 0, 256), api.Answer{Data: []byte(data[:min(256, len(data))])})
	if len(data) > 256 {
		answers(t, r, read(s, 256, 256), api.Answer{Data: []byte(data[256:])})
	}
}

// allWrong gives texts that are no paths.
func allWrong() []string {
	return []string{"", "a", "//", "/a/", "/.", "/..", "/d/.", "/d/..", "/d//e", "/a\x00", "/abcdefghijklmnopq", strings.Repeat("/a", 9), "d/e", " /d"}
}

// P4.1

func TestNew(t *testing.T) {
	r := tree.New()
	if !sameNodes(r.Nodes(), []api.Node{{Number: 0, Kind: api.Directory, Links: 1}}) {
		t.Errorf("%+v", r.Nodes())
	}
	answers(t, r, stat("/"), api.Answer{Kind: api.Directory, Links: 1})
	has(t, r, "/")
	other := tree.New()
	r.Do(mkdir("/a"))
	has(t, other, "/")
}

func TestChanges(t *testing.T) {
	want := []int{api.CallMkdir, api.CallRmdir, api.CallCreate, api.CallUnlink, api.CallLink, api.CallRename, api.CallWrite, api.CallCut}
	for kind := -300; kind < 600; kind++ {
		if tree.Changes(kind) != slices.Contains(want, kind) {
			t.Errorf("%d", kind)
		}
	}
	if tree.Changes(math.MaxInt) || tree.Changes(math.MinInt) || tree.Changes(1<<32+1) {
		t.Error("a kind that is none")
	}
}

func TestExample(t *testing.T) {
	fails(t, grown(t, mkdir("/a"), create("/a/b")), api.ErrInside, rename("/a", "/a/c"))
}

func TestFind(t *testing.T) {
	r := sample(t)
	finding := func(s string) []api.Call {
		return []api.Call{rmdir(s), unlink(s), link(s, "/new"), rename(s, "/new"), write(s, -1, "a"), read(s, -1, -1), cut(s, -1), stat(s), list(s)}
	}
	for _, s := range allWrong() {
		fails(t, r, api.ErrName, finding(s)...)
	}
	for _, s := range []string{"/x", "/d/x", "/d/e/x", "/x/y", "/D", "/d/e/ff", "/i/d", "/e"} {
		fails(t, r, api.ErrNoEntry, finding(s)...)
	}
	for _, s := range []string{"/h/x", "/h/h", "/d/g/x", "/d/e/f/x", "/h/x/y"} {
		fails(t, r, api.ErrNotDir, finding(s)...)
	}
	fails(t, r, api.ErrName, finding("/h/x/")...)
	fails(t, r, api.ErrName, finding("/x/..")...)
}

func TestFindPlace(t *testing.T) {
	r := sample(t)
	placing := func(s string) []api.Call {
		return []api.Call{mkdir(s), create(s), link("/h", s), rename("/h", s), rename("/i", s), link("/d/g", s)}
	}
	for _, s := range append(allWrong(), "/") {
		fails(t, r, api.ErrName, placing(s)...)
	}
	for _, s := range []string{"/x/y", "/d/x/y", "/d/e/x/y"} {
		fails(t, r, api.ErrNoEntry, placing(s)...)
	}
	for _, s := range []string{"/d/g/x", "/d/g/x/y", "/d/e/f/x"} {
		fails(t, r, api.ErrNotDir, placing(s)...)
	}
	for _, s := range []string{"/d", "/d/e", "/d/e/f", "/d/g"} {
		fails(t, r, api.ErrExists, placing(s)...)
	}
	fails(t, r, api.ErrNotDir, mkdir("/h/x"), create("/h/x"), link("/h", "/h/x"))
}

func TestMkdirAndCreate(t *testing.T) {
	r := grown(t, mkdir("/a"), create("/a/b"), mkdir("/a/c"), create("/d"))
	answers(t, r, stat("/"), api.Answer{Kind: api.Directory, Size: 2, Links: 1})
	answers(t, r, stat("/a"), api.Answer{Kind: api.Directory, Size: 2, Links: 1})
	answers(t, r, stat("/a/c"), api.Answer{Kind: api.Directory, Links: 1})
	answers(t, r, stat("/d"), api.Answer{Kind: api.File, Links: 1})
	holds(t, r, "/a/b", "")
	deep := ""
	for range 8 {
		deep += "/x"
		answers(t, r, mkdir(deep), api.Answer{})
	}
	fails(t, r, api.ErrName, mkdir(deep+"/x"), create(deep+"/x"))
}

func TestLeastNumber(t *testing.T) {
	r := grown(t, mkdir("/a"), mkdir("/b"), create("/c"), create("/d"), rmdir("/b"), unlink("/c"), create("/e"), mkdir("/f"), mkdir("/g"), rmdir("/a"), create("/h"))
	want := []api.Entry{{Name: "d", Node: 4}, {Name: "e", Node: 2}, {Name: "f", Node: 3}, {Name: "g", Node: 5}, {Name: "h", Node: 1}}
	if got := r.Nodes()[0].Entries; !slices.Equal(got, want) {
		t.Errorf("%+v", got)
	}
}

// full gives a tree of as many nodes as may be: directories /0, /2 and on, and files /1, /3 and on.
func full(t *testing.T) *tree.Tree {
	t.Helper()
	var calls []api.Call
	for n := range 63 {
		name := "/" + strconv.Itoa(n)
		if n%2 == 0 {
			calls = append(calls, mkdir(name))
		} else {
			calls = append(calls, create(name))
		}
	}
	return grown(t, calls...)
}

func TestNoSpaceForNodes(t *testing.T) {
	r := full(t)
	if nodes := r.Nodes(); len(nodes) != 64 || nodes[63].Number != 63 {
		t.Fatalf("%d nodes", len(nodes))
	}
	fails(t, r, api.ErrNoSpace, mkdir("/new"), create("/new"), mkdir("/0/new"), create("/0/new"))
	fails(t, r, api.ErrExists, mkdir("/1"), create("/1"))
	fails(t, r, api.ErrNotDir, mkdir("/1/a"), create("/1/a"))
	fails(t, r, api.ErrNoEntry, mkdir("/new/a"))
	fails(t, r, api.ErrName, mkdir("/"), create("x"))
	answers(t, r, link("/1", "/0/more"), api.Answer{})
	answers(t, r, rename("/0/more", "/more"), api.Answer{})
	fails(t, r, api.ErrNoSpace, mkdir("/new"))
	answers(t, r, unlink("/more"), api.Answer{})
	fails(t, r, api.ErrNoSpace, mkdir("/new"))
	answers(t, r, unlink("/1"), api.Answer{})
	answers(t, r, mkdir("/new"), api.Answer{})
	fails(t, r, api.ErrNoSpace, create("/newer"))
	if loaded, code := tree.Load(r.Nodes()); code != api.OK || !sameNodes(loaded.Nodes(), r.Nodes()) {
		t.Errorf("64 nodes: %d", code)
	}
}

func TestRmdir(t *testing.T) {
	r := sample(t)
	fails(t, r, api.ErrName, rmdir("/"))
	fails(t, r, api.ErrNotDir, rmdir("/h"), rmdir("/d/g"))
	fails(t, r, api.ErrNotEmpty, rmdir("/d"), rmdir("/d/e"))
	answers(t, r, rmdir("/i"), api.Answer{})
	fails(t, r, api.ErrNoEntry, rmdir("/i"), stat("/i"))
	has(t, r, "/", "d", "h")
	answers(t, r, unlink("/d/e/f"), api.Answer{})
	answers(t, r, rmdir("/d/e"), api.Answer{})
	has(t, r, "/d", "g")
	fails(t, tree.New(), api.ErrName, rmdir("/"), unlink("/"), rename("/", "/"), rename("/", "/a"))
}

func TestUnlink(t *testing.T) {
	r := sample(t)
	fails(t, r, api.ErrName, unlink("/"))
	fails(t, r, api.ErrIsDir, unlink("/d"), unlink("/i"))
	count := len(r.Nodes())
	answers(t, r, unlink("/d/e/f"), api.Answer{})
	fails(t, r, api.ErrNoEntry, unlink("/d/e/f"), read("/d/e/f", 0, 1))
	holds(t, r, "/d/g", "\x00\x00z")
	answers(t, r, stat("/d/g"), api.Answer{Kind: api.File, Size: 3, Links: 1})
	if len(r.Nodes()) != count {
		t.Error("the node went with an entry that isn't its last")
	}
	answers(t, r, unlink("/d/g"), api.Answer{})
	if len(r.Nodes()) != count-1 {
		t.Error("the node stays without an entry")
	}
	answers(t, r, create("/d/g"), api.Answer{})
	holds(t, r, "/d/g", "")
}

func TestLink(t *testing.T) {
	r := sample(t)
	fails(t, r, api.ErrIsDir, link("/", "/new"), link("/d", "/new"), link("/i", "bad"), link("/i", "/h"))
	fails(t, r, api.ErrExists, link("/h", "/h"), link("/h", "/d/g"), link("/h", "/d"))
	answers(t, r, link("/h", "/i/j"), api.Answer{})
	answers(t, r, stat("/h"), api.Answer{Kind: api.File, Size: 3, Links: 2})
	answers(t, r, stat("/i/j"), api.Answer{Kind: api.File, Size: 3, Links: 2})
	answers(t, r, write("/i/j", 1, "X"), api.Answer{})
	holds(t, r, "/h", "aXc")
	answers(t, r, cut("/h", 1), api.Answer{})
	holds(t, r, "/i/j", "a")
	for n := range 200 {
		answers(t, r, link("/h", "/i/"+strings.Repeat("x", n/20)+"y"+string(rune('a'+n%20))), api.Answer{})
	}
	answers(t, r, stat("/h"), api.Answer{Kind: api.File, Size: 1, Links: 202})
	answers(t, r, stat("/i"), api.Answer{Kind: api.Directory, Size: 201, Links: 1})
}

func TestRename(t *testing.T) {
	r := sample(t)
	answers(t, r, rename("/d", "/i/dd"), api.Answer{})
	has(t, r, "/", "h", "i")
	has(t, r, "/i/dd", "e", "g")
	holds(t, r, "/i/dd/e/f", "\x00\x00z")
	answers(t, r, stat("/i/dd/g"), api.Answer{Kind: api.File, Size: 3, Links: 2})
	answers(t, r, rename("/h", "/i/dd/e/h"), api.Answer{})
	holds(t, r, "/i/dd/e/h", "abc")
	fails(t, r, api.ErrNoEntry, stat("/h"), rename("/h", "/h"), rename("/h", "/h/x"))
	fails(t, r, api.ErrExists, rename("/i/dd/g", "/i/dd/e/f"), rename("/i/dd/e", "/i"), rename("/i/dd/e", "/i/dd"))
	answers(t, r, rename("/i/dd/e", "/i/dd/ee"), api.Answer{})
	has(t, r, "/i/dd", "ee", "g")
}

func TestRenameToItself(t *testing.T) {
	r := sample(t)
	ahead := r.Nodes()
	for _, s := range []string{"/d", "/d/e", "/d/e/f", "/d/g", "/h", "/i"} {
		answers(t, r, rename(s, s), api.Answer{})
	}
	if !sameNodes(r.Nodes(), ahead) {
		t.Errorf("%+v", r.Nodes())
	}
}

func TestRenameInside(t *testing.T) {
	r := sample(t)
	fails(t, r, api.ErrInside, rename("/d", "/d/x"), rename("/d", "/d/e/x"), rename("/d", "/d/e"), rename("/d", "/d/x/y"), rename("/d", "/d/g/x"), rename("/d/e", "/d/e/f"), rename("/h", "/h/x"), rename("/d/g", "/d/g/x/y"))
	fails(t, r, api.ErrName, rename("/d", "/d/x/"), rename("/d", "/d/.."), rename("/d", "/d"+strings.Repeat("/a", 8)))
	answers(t, r, rename("/d", "/dd"), api.Answer{})
	answers(t, r, rename("/dd", "/d"), api.Answer{})
}

// TestRenameDeep: renamed beneath another one again and again, a directory comes deeper than a path tells.
func TestRenameDeep(t *testing.T) {
	r := grown(t, mkdir("/a"), create("/a/f"), write("/a/f", 0, "abc"))
	for range 61 {
		for _, c := range []api.Call{mkdir("/b"), rename("/a", "/b/a"), rename("/b", "/a")} {
			answers(t, r, c, api.Answer{})
		}
	}
	fails(t, r, api.ErrNoSpace, mkdir("/b"))
	loaded, code := tree.Load(r.Nodes())
	if code != api.OK || !sameNodes(loaded.Nodes(), r.Nodes()) {
		t.Fatalf("%d nodes: %d", len(r.Nodes()), code)
	}
	answers(t, loaded, rename("/a"+strings.Repeat("/a", 7), "/b"), api.Answer{})
	has(t, loaded, strings.Repeat("/a", 7))
	has(t, loaded, "/b", "a")
}

func TestWrite(t *testing.T) {
	r := sample(t)
	fails(t, r, api.ErrIsDir, write("/", 0, "a"), write("/d", -1, "a"), write("/i", 600, "a"))
	fails(t, r, api.ErrArg, write("/h", -1, "a"), write("/h", math.MinInt, ""), write("/h", 0, strings.Repeat("a", 257)), write("/h", 600, strings.Repeat("a", 257)), write("/h", math.MaxInt, strings.Repeat("a", 257)))
	fails(t, r, api.ErrNoSpace, write("/h", 512, "a"), write("/h", 513, ""), write("/h", 257, strings.Repeat("a", 256)), write("/h", math.MaxInt, "a"), write("/h", math.MaxInt, ""), write("/h", math.MaxInt-255, strings.Repeat("a", 256)), write("/h", 1<<32, "a"))
	holds(t, r, "/h", "abc")
	for _, x := range []struct {
		off        int
		data, want string
	}{
		{1, "X", "aXc"},
		{0, "", "aXc"},
		{3, "", "aXc"},
		{100, "", "aXc"},
		{512, "", "aXc"},
		{2, "YZ", "aXYZ"},
		{6, "e", "aXYZ\x00\x00e"},
		{0, "bb", "bbYZ\x00\x00e"},
		{256, strings.Repeat("q", 256), "bbYZ\x00\x00e" + strings.Repeat("\x00", 249) + strings.Repeat("q", 256)},
		{511, "!", "bbYZ\x00\x00e" + strings.Repeat("\x00", 249) + strings.Repeat("q", 255) + "!"},
		{0, strings.Repeat("r", 256), strings.Repeat("r", 256) + strings.Repeat("q", 255) + "!"},
	} {
		answers(t, r, write("/h", x.off, x.data), api.Answer{})
		holds(t, r, "/h", x.want)
	}
}

func TestRead(t *testing.T) {
	r := sample(t)
	fails(t, r, api.ErrIsDir, read("/", 0, 1), read("/d", -1, 1), read("/i", 0, 257))
	fails(t, r, api.ErrArg, read("/h", -1, 1), read("/h", 0, -1), read("/h", 0, 257), read("/h", math.MinInt, 0), read("/h", 0, math.MinInt), read("/h", 0, math.MaxInt), read("/h", math.MaxInt, 257))
	for _, x := range []struct {
		off, n int
		want   string
	}{
		{0, 0, ""}, {0, 1, "a"}, {0, 3, "abc"}, {0, 4, "abc"}, {0, 256, "abc"}, {1, 1, "b"}, {1, 256, "bc"}, {2, 1, "c"},
		{3, 0, ""}, {3, 1, ""}, {4, 1, ""}, {512, 256, ""}, {513, 1, ""}, {math.MaxInt, 256, ""}, {math.MaxInt, 0, ""}, {1 << 32, 1, ""},
	} {
		answers(t, r, read("/h", x.off, x.n), api.Answer{Data: []byte(x.want)})
	}
}

func TestCut(t *testing.T) {
	r := sample(t)
	fails(t, r, api.ErrIsDir, cut("/", 0), cut("/d", -1), cut("/i", 513))
	fails(t, r, api.ErrArg, cut("/h", -1), cut("/h", math.MinInt))
	fails(t, r, api.ErrNoSpace, cut("/h", 513), cut("/h", math.MaxInt))
	for _, x := range []struct {
		n    int
		want string
	}{
		{3, "abc"}, {2, "ab"}, {4, "ab\x00\x00"}, {1, "a"}, {0, ""}, {2, "\x00\x00"}, {512, strings.Repeat("\x00", 512)}, {0, ""},
	} {
		answers(t, r, cut("/h", x.n), api.Answer{})
		holds(t, r, "/h", x.want)
	}
	answers(t, r, write("/h", 0, "secret"), api.Answer{})
	answers(t, r, cut("/h", 1), api.Answer{})
	answers(t, r, write("/h", 4, "t"), api.Answer{})
	holds(t, r, "/h", "s\x00\x00\x00t")
}

func TestStatListSync(t *testing.T) {
	r := sample(t)
	answers(t, r, stat("/"), api.Answer{Kind: api.Directory, Size: 3, Links: 1})
	answers(t, r, stat("/d/e/f"), api.Answer{Kind: api.File, Size: 3, Links: 2})
	has(t, r, "/", "d", "h", "i")
	has(t, r, "/i")
	fails(t, r, api.ErrNotDir, list("/h"), list("/d/g"))
	answers(t, r, api.Call{Kind: api.CallSync, Path: "no path", Other: "/x", Off: -1, N: 1000, Data: make([]byte, 1000)}, api.Answer{})
	for _, name := range []string{"\xff", "B", "a", "~", "\x01", "aa", "é", "C"} {
		answers(t, r, create("/i/"+name), api.Answer{})
	}
	has(t, r, "/i", "\x01", "B", "C", "a", "aa", "~", "é", "\xff")
}

func TestOtherKinds(t *testing.T) {
	r := sample(t)
	for _, kind := range []int{0, 13, 14, -1, 255, 256, 257, math.MaxInt, math.MinInt, 1<<32 + 1} {
		fails(t, r, api.ErrArg, api.Call{Kind: kind}, api.Call{Kind: kind, Path: "/", Other: "/x"}, api.Call{Kind: kind, Path: "no path"}, api.Call{Kind: kind, Path: "/h", Data: []byte("a")})
	}
}

// TestFieldsThatDoNotCount: what a kind doesn't speak of may be anything.
func TestFieldsThatDoNotCount(t *testing.T) {
	r := tree.New()
	wild := func(c api.Call) api.Call {
		if c.Kind != api.CallLink && c.Kind != api.CallRename {
			c.Other = "//"
		}
		if c.Kind != api.CallWrite && c.Kind != api.CallRead {
			c.Off = -7
		}
		if c.Kind != api.CallRead && c.Kind != api.CallCut {
			c.N = -7
		}
		if c.Kind != api.CallWrite {
			c.Data = make([]byte, 5000)
		}
		return c
	}
	for _, c := range []api.Call{mkdir("/a"), create("/b"), write("/b", 0, "x"), link("/b", "/c"), rename("/c", "/d"), cut("/b", 1), unlink("/d"), rmdir("/a")} {
		answers(t, r, wild(c), api.Answer{})
	}
	answers(t, r, wild(read("/b", 0, 9)), api.Answer{Data: []byte("x")})
	answers(t, r, wild(stat("/b")), api.Answer{Kind: api.File, Size: 1, Links: 1})
	answers(t, r, wild(list("/")), api.Answer{Names: []string{"b"}})
}

// P4.2

func TestNodes(t *testing.T) {
	want := []api.Node{
		{Number: 0, Kind: api.Directory, Links: 1, Entries: []api.Entry{{Name: "d", Node: 1}, {Name: "h", Node: 4}, {Name: "i", Node: 5}}},
		{Number: 1, Kind: api.Directory, Links: 1, Entries: []api.Entry{{Name: "e", Node: 2}, {Name: "g", Node: 3}}},
		{Number: 2, Kind: api.Directory, Links: 1, Entries: []api.Entry{{Name: "f", Node: 3}}},
		{Number: 3, Kind: api.File, Links: 2, Data: []byte("\x00\x00z")},
		{Number: 4, Kind: api.File, Links: 1, Data: []byte("abc")},
		{Number: 5, Kind: api.Directory, Links: 1},
	}
	r := sample(t)
	if !sameNodes(r.Nodes(), want) {
		t.Errorf("%+v", r.Nodes())
	}
	answers(t, r, rmdir("/i"), api.Answer{})
	answers(t, r, unlink("/h"), api.Answer{})
	answers(t, r, create("/B"), api.Answer{})
	want = want[:5]
	want[0].Entries = []api.Entry{{Name: "B", Node: 4}, {Name: "d", Node: 1}}
	want[4].Data = nil
	if !sameNodes(r.Nodes(), want) {
		t.Errorf("%+v", r.Nodes())
	}
}

// loads looks at what Load answers, against the document.
func loads(t *testing.T, nodes []api.Node) {
	t.Helper()
	ahead := copyNodes(nodes)
	r, code := tree.Load(nodes)
	if !sameNodes(nodes, ahead) {
		t.Fatalf("what was handed in is changed: %+v", nodes)
	}
	if !isTree(nodes) {
		if r != nil || code != api.ErrForm {
			t.Errorf("%+v: %v, %d", nodes, r, code)
		}
		return
	}
	if r == nil || code != api.OK {
		t.Errorf("%+v: %v, %d", nodes, r, code)
	} else if !sameNodes(r.Nodes(), nodes) {
		t.Errorf("%+v: %+v", nodes, r.Nodes())
	}
}

// Nodes, written shortly.

func dir(number int, entries ...api.Entry) api.Node {
	return api.Node{Number: number, Kind: api.Directory, Links: 1, Entries: entries}
}
func file(number, links int, data string) api.Node {
	return api.Node{Number: number, Kind: api.File, Links: links, Data: []byte(data)}
}
func of(name string, number int) api.Entry { return api.Entry{Name: name, Node: number} }

func TestLoad(t *testing.T) {
	deep := []api.Node{dir(0, of("a", 1))}
	for n := 1; n < 63; n++ {
		deep = append(deep, dir(n, of("a", n+1)))
	}
	backwards := []api.Node{dir(0, of("a", 63)), dir(1)}
	for n := 2; n < 64; n++ {
		backwards = append(backwards, dir(n, of("a", n-1)))
	}
	for name, nodes := range map[string][]api.Node{
		"root alone":             {dir(0)},
		"empty lists":            {{Kind: api.Directory, Links: 1, Data: []byte{}, Entries: []api.Entry{}}},
		"numbers with gaps":      {dir(0, of("a", 7), of("b", 63)), file(7, 1, "x"), dir(63)},
		"children ahead":         {dir(0, of("a", 2)), file(1, 1, ""), dir(2, of("b", 1))},
		"links":                  {dir(0, of("a", 1), of("b", 1), of("c", 2)), file(1, 3, ""), dir(2, of("a", 1))},
		"63 deep":                append(slices.Clone(deep), file(63, 1, "x")),
		"63 deep, backwards":     backwards,
		"longest":                {dir(0, of("abcdefghijklmnop", 1)), file(1, 1, strings.Repeat("x", 512))},
		"a file with no entries": {dir(0, of("a", 1)), {Number: 1, Kind: api.File, Links: 1, Data: []byte{}, Entries: []api.Entry{}}},
	} {
		if !isTree(nodes) {
			t.Errorf("%s: the test itself is wrong", name)
		}
		loads(t, nodes)
	}
}

func TestLoadNoTree(t *testing.T) {
	many := []api.Node{dir(0)}
	for n := 1; n < 65; n++ {
		many[0].Entries = append(many[0].Entries, of("a"+string(rune('0'+n)), n))
		many = append(many, dir(n))
	}
	withLinks := func(n api.Node, links int) api.Node { n.Links = links; return n }
	withKind := func(n api.Node, kind int) api.Node { n.Kind = kind; return n }
	withData := func(n api.Node) api.Node { n.Data = []byte{0}; return n }
	for name, nodes := range map[string][]api.Node{
		"nothing":                       nil,
		"no root":                       {dir(1)},
		"a root beneath one":            {dir(1, of("a", 2)), dir(2)},
		"a file as the root":            {file(0, 1, "")},
		"a file as the root, no links":  {file(0, 0, "")},
		"two roots":                     {dir(0), dir(0)},
		"below 0":                       {dir(-1), dir(0)},
		"the root behind":               {dir(1), dir(0, of("a", 1))},
		"falling":                       {dir(0, of("a", 1), of("b", 2)), dir(2), dir(1)},
		"a number twice":                {dir(0, of("a", 1)), dir(1), dir(1)},
		"a file twice":                  {dir(0, of("a", 1), of("b", 1)), file(1, 1, ""), file(1, 1, "")},
		"number 64":                     {dir(0, of("a", 64)), dir(64)},
		"a great number":                {dir(0, of("a", math.MaxInt)), dir(math.MaxInt)},
		"too many":                      many,
		"kind 0":                        {dir(0, of("a", 1)), withKind(dir(1), 0)},
		"kind 3":                        {dir(0, of("a", 1)), withKind(file(1, 1, ""), 3)},
		"kind 3 as the root":            {withKind(dir(0), 3)},
		"kind 257":                      {dir(0, of("a", 1)), withKind(dir(1), 257)},
		"root without links":            {withLinks(dir(0), 0)},
		"root with two links":           {withLinks(dir(0), 2)},
		"directory without links":       {dir(0, of("a", 1)), withLinks(dir(1), 0)},
		"directory with two links":      {dir(0, of("a", 1)), withLinks(dir(1), 2)},
		"directory linked twice":        {dir(0, of("a", 1), of("b", 1)), withLinks(dir(1), 2)},
		"directory twice, of one link":  {dir(0, of("a", 1), of("b", 1)), dir(1)},
		"file of no entry":              {dir(0), file(1, 0, "")},
		"file of no entry, of one link": {dir(0), file(1, 1, "")},
		"file of less links":            {dir(0, of("a", 1), of("b", 1)), file(1, 1, "")},
		"file of more links":            {dir(0, of("a", 1)), file(1, 2, "")},
		"file of links below 0":         {dir(0, of("a", 1)), file(1, -1, "")},
		"file of many links":            {dir(0, of("a", 1)), file(1, math.MaxInt, "")},
		"directory with bytes":          {dir(0, of("a", 1)), withData(dir(1))},
		"root with bytes":               {withData(dir(0))},
		"file with entries":             {dir(0, of("a", 1)), {Number: 1, Kind: api.File, Links: 1, Entries: []api.Entry{of("b", 2)}}, file(2, 1, "")},
		"file with 513 bytes":           {dir(0, of("a", 1)), file(1, 1, strings.Repeat("x", 513))},
		"entry of none":                 {dir(0, of("a", 1))},
		"entry below 0":                 {dir(0, of("a", -1))},
		"entry of 64":                   {dir(0, of("a", 64))},
		"entry of a great number":       {dir(0, of("a", math.MaxInt))},
		"entry of the root":             {dir(0, of("a", 0))},
		"entry of the root, two links":  {withLinks(dir(0, of("a", 0)), 2)},
		"root beneath another":          {dir(0, of("a", 1)), dir(1, of("b", 0))},
		"names falling":                 {dir(0, of("b", 1), of("a", 2)), dir(1), dir(2)},
		"a name twice":                  {dir(0, of("a", 1), of("a", 2)), dir(1), dir(2)},
		"a file's name twice":           {dir(0, of("a", 1), of("a", 1)), file(1, 2, "")},
		"no name":                       {dir(0, of("", 1)), dir(1)},
		"name .":                        {dir(0, of(".", 1)), dir(1)},
		"name ..":                       {dir(0, of("..", 1)), dir(1)},
		"name with /":                   {dir(0, of("a/b", 1)), dir(1)},
		"name with 0":                   {dir(0, of("a\x00", 1)), dir(1)},
		"name too long":                 {dir(0, of("abcdefghijklmnopq", 1)), dir(1)},
		"a second name too long":        {dir(0, of("a", 1), of("bbcdefghijklmnopq", 2)), dir(1), dir(2)},
		"beneath itself":                {dir(0), dir(1, of("a", 1))},
		"two in a ring":                 {dir(0, of("x", 3)), dir(1, of("a", 2)), dir(2, of("a", 1)), dir(3)},
		"a ring with a file":            {dir(0), dir(1, of("a", 1), of("f", 2)), file(2, 1, "")},
		"a ring with a file linked":     {dir(0, of("f", 2)), dir(1, of("a", 1), of("f", 2)), file(2, 2, "")},
		"a directory of no entry":       {dir(0), dir(1)},
	} {
		if isTree(nodes) {
			t.Errorf("%s: the test itself is wrong", name)
		}
		loads(t, nodes)
	}
}

// spoil changes one thing of nodes, or two.
func spoil(s *source, nodes []api.Node) []api.Node {
	nodes = copyNodes(nodes)
	for range 1 + s.next(2) {
		if i := s.next(len(nodes) + 2); i < len(nodes) {
			spoilNode(s, &nodes[i])
		} else if i == len(nodes) {
			nodes = append(nodes, dir(s.next(66)-1))
		} else if i > 2 {
			nodes = nodes[:len(nodes)-1]
		}
	}
	return nodes
}

func spoilNode(s *source, n *api.Node) {
	number := s.next(66) - 1
	if s.next(2) == 0 {
		number %= 8
	}
	kind := s.next(9)
	if kind > 5 && len(n.Entries) == 0 {
		kind = 5
	}
	switch kind {
	case 0:
		n.Number = number
	case 1:
		n.Kind = s.next(4)
	case 2:
		n.Links = s.next(4)
	case 3:
		n.Data = make([]byte, []int{0, 1, 512, 513}[s.next(4)])
	case 4, 5:
		n.Entries = append(n.Entries, of(string(rune('a'+s.next(26))), number))
	case 6:
		n.Entries[s.next(len(n.Entries))].Node = number
	case 7:
		n.Entries[s.next(len(n.Entries))].Name = []string{"", ".", "a", "b/", "aa", "zz"}[s.next(6)]
	case 8:
		n.Entries = n.Entries[1:]
	}
}

// P4.3, and all of the others once more, against what the document says word by word.

// alike does calls on a tree, one loaded from it now and then, and the model, and spoils their nodes.
func alike(t *testing.T, data []byte) {
	t.Helper()
	s := &source{data}
	r, m := tree.New(), newModel()
	for len(s.rest) > 0 {
		c := s.call()
		given := bytes.Clone(c.Data)
		got, want := r.Do(c), m.do(c)
		if !sameAnswer(got, want) {
			t.Fatalf("%+v: %+v, not %+v", c, got, want)
		}
		if !sameNodes(r.Nodes(), m.nodes) {
			t.Fatalf("%+v: %+v, not %+v", c, r.Nodes(), m.nodes)
		}
		if !bytes.Equal(given, c.Data) {
			t.Fatalf("%+v: what was handed in is changed", c)
		}
		if !isTree(m.nodes) {
			t.Fatalf("the test itself is wrong: %+v", m.nodes)
		}
		if s.next(4) == 0 {
			loads(t, spoil(s, r.Nodes()))
		}
		if s.next(8) == 0 {
			loaded, code := tree.Load(r.Nodes())
			if code != api.OK || !sameNodes(loaded.Nodes(), m.nodes) {
				t.Fatalf("%+v: %d", m.nodes, code)
			}
			r = loaded
		}
	}
}

func someBytes(seed int64, size int) []byte {
	data := make([]byte, size)
	rand.New(rand.NewSource(seed)).Read(data)
	return data
}

func TestAlike(t *testing.T) {
	for seed := range int64(300) {
		alike(t, someBytes(seed, 4000))
	}
}

func TestLoadSpoiled(t *testing.T) {
	r := sample(t)
	for seed := range int64(20000) {
		loads(t, spoil(&source{someBytes(seed, 16)}, r.Nodes()))
	}
}

func FuzzAlike(f *testing.F) {
	for seed := range int64(4) {
		f.Add(someBytes(seed, 400))
	}
	f.Fuzz(alike)
}

// P1 and P2, and rule 4

func TestMemory(t *testing.T) {
	r := sample(t)
	want := copyNodes(r.Nodes())
	look := func(what string) {
		t.Helper()
		if !sameNodes(r.Nodes(), want) {
			t.Errorf("%s: %+v", what, r.Nodes())
		}
	}
	nodes := r.Nodes()
	loaded, _ := tree.Load(nodes)
	for i := range nodes {
		for j := range nodes[i].Data {
			nodes[i].Data[j] = '!'
		}
		for j := range nodes[i].Entries {
			nodes[i].Entries[j] = of("!", 9)
		}
		_ = append(nodes[i].Data, '!')
		_ = append(nodes[i].Entries, of("!", 9))
	}
	look("what Nodes told is new memory")
	if !sameNodes(loaded.Nodes(), want) {
		t.Errorf("Load keeps what was handed in: %+v", loaded.Nodes())
	}
	a := r.Do(read("/h", 0, 2))
	a.Data[0] = '!'
	_ = append(a.Data, '!')
	look("what was read is new memory")
	b := r.Do(list("/"))
	b.Names[0] = "!"
	look("what was listed is new memory")
	has(t, r, "/", "d", "h", "i")
	c := write("/h", 0, "abc")
	r.Do(c)
	c.Data[0] = '!'
	look("what was written is kept")
	answers(t, loaded, write("/h", 0, "zzz"), api.Answer{})
	answers(t, loaded, rmdir("/i"), api.Answer{})
	look("a loaded tree shares nothing")
}

func TestAgain(t *testing.T) {
	for seed := range int64(20) {
		first, second := &source{someBytes(seed, 3000)}, &source{someBytes(seed, 3000)}
		r, other := tree.New(), tree.New()
		for len(first.rest) > 0 {
			c := first.call()
			if a, b := r.Do(c), other.Do(second.call()); !sameAnswer(a, b) || !sameNodes(r.Nodes(), other.Nodes()) {
				t.Fatalf("%+v: %+v, then %+v", c, a, b)
			}
		}
	}
}
