package snap_test

import (
	"fmt"
	"math/rand"
	"slices"
	"strings"
	"testing"

	"tideline/api"
	"tideline/tree"
)

func loaded(t testing.TB, nodes []api.Node) *tree.Tree {
	t.Helper()
	r, code := tree.Load(nodes)
	if code != api.OK {
		t.Fatalf("these are no tree's nodes: %d", code)
	}
	return r
}

func grown(t testing.TB, calls ...api.Call) *tree.Tree {
	t.Helper()
	r := tree.New()
	for _, c := range calls {
		if a := r.Do(c); a.Err != api.OK {
			t.Fatalf("%+v: %+v", c, a)
		}
	}
	return r
}

// sample gives a tree with a directory, and two files: /d/f is /g, too.
func sample(t testing.TB) *tree.Tree {
	return grown(t,
		api.Call{Kind: api.CallMkdir, Path: "/d"},
		api.Call{Kind: api.CallCreate, Path: "/d/f"},
		api.Call{Kind: api.CallLink, Path: "/d/f", Other: "/g"},
		api.Call{Kind: api.CallCreate, Path: "/h"},
		api.Call{Kind: api.CallWrite, Path: "/g", Off: 1, Data: []byte("xyz")},
	)
}

// sampleNodes gives sample's nodes, to be spoiled.
func sampleNodes() []api.Node {
	return []api.Node{
		{Number: 0, Kind: api.Directory, Links: 1, Entries: []api.Entry{{Name: "d", Node: 1}, {Name: "g", Node: 2}, {Name: "h", Node: 3}}},
		{Number: 1, Kind: api.Directory, Links: 1, Entries: []api.Entry{{Name: "f", Node: 2}}},
		{Number: 2, Kind: api.File, Links: 2, Data: []byte("\x00xyz")},
		{Number: 3, Kind: api.File, Links: 1},
	}
}

// chainNodes gives a tree of so many directories, each beneath the one ahead of it.
func chainNodes(n int) []api.Node {
	nodes := make([]api.Node, n)
	for i := range nodes {
		nodes[i] = api.Node{Number: i, Kind: api.Directory, Links: 1}
		if i+1 < n {
			nodes[i].Entries = []api.Entry{{Name: "x", Node: i + 1}}
		}
	}
	return nodes
}

// linkedNodes gives a tree with one file of so many links, all in the root.
func linkedNodes(links int) []api.Node {
	entries := make([]api.Entry, links)
	for i := range entries {
		entries[i] = api.Entry{Name: fmt.Sprintf("%06d", i), Node: 1}
	}
	return []api.Node{
		{Number: 0, Kind: api.Directory, Links: 1, Entries: entries},
		{Number: 1, Kind: api.File, Links: links, Data: []byte("abc")},
	}
}

// fullNodes gives a tree of as many nodes as there may be: files of all lengths from 450 to 512 bytes.
func fullNodes() []api.Node {
	nodes := []api.Node{{Number: 0, Kind: api.Directory, Links: 1}}
	for i := 1; i < 64; i++ {
		nodes[0].Entries = append(nodes[0].Entries, api.Entry{Name: fmt.Sprintf("\xff%015d", i), Node: i})
		nodes = append(nodes, api.Node{Number: i, Kind: api.File, Links: 1, Data: []byte(strings.Repeat(string([]byte{byte(i * 4)}), 449+i))})
	}
	return nodes
}

// someTrees gives trees of all sorts, that calls led to or not.
func someTrees(t testing.TB) []*tree.Tree {
	gaps := []api.Node{
		{Number: 0, Kind: api.Directory, Links: 1, Entries: []api.Entry{{Name: "a", Node: 63}}},
		{Number: 31, Kind: api.File, Links: 1},
		{Number: 63, Kind: api.Directory, Links: 1, Entries: []api.Entry{{Name: "0123456789abcdef", Node: 31}}},
	}
	trees := []*tree.Tree{tree.New(), sample(t), loaded(t, gaps), loaded(t, fullNodes()), loaded(t, chainNodes(9)), loaded(t, chainNodes(64)), loaded(t, linkedNodes(65)), loaded(t, linkedNodes(300))}
	for seed := range int64(40) {
		r := tree.New()
		calls := rand.New(rand.NewSource(seed))
		for range 20 * seed {
			r.Do(someCall(calls))
		}
		trees = append(trees, r)
	}
	return trees
}

// somePath gives a path of few names, now and then a text that is none.
func somePath(from *rand.Rand) string {
	names := []string{"a", "b", "c", "\xff", "0123456789abcdef"}
	if from.Intn(20) == 0 {
		return []string{"/", "", "a", "/a/", "/..", "/a\x00"}[from.Intn(6)]
	}
	s := ""
	for range 1 + from.Intn(4) {
		s += "/" + names[from.Intn(2+from.Intn(4))]
	}
	return s
}

func someCall(from *rand.Rand) api.Call {
	kinds := []int{api.CallMkdir, api.CallMkdir, api.CallMkdir, api.CallCreate, api.CallCreate, api.CallLink, api.CallLink, api.CallRename, api.CallWrite, api.CallWrite}
	c := api.Call{Kind: from.Intn(14), Path: somePath(from), Other: somePath(from), Off: from.Intn(300), N: from.Intn(300)}
	if from.Intn(2) == 0 {
		c.Kind = kinds[from.Intn(len(kinds))]
	}
	c.Data = slices.Repeat([]byte{byte(from.Intn(256))}, from.Intn(260))
	return c
}

// alike looks whether two trees have the same nodes, and answer calls alike that are done on both, one behind the other.
func alike(t *testing.T, what string, a, b *tree.Tree, seed int64) {
	t.Helper()
	if !sameNodes(a.Nodes(), b.Nodes()) {
		t.Errorf("%s: other nodes", what)
		return
	}
	calls := rand.New(rand.NewSource(seed))
	for range 300 {
		c := someCall(calls)
		if x, y := a.Do(c), b.Do(c); !sameAnswer(x, y) {
			t.Errorf("%s: %+v: %+v and %+v", what, c, x, y)
			return
		}
	}
	if !sameNodes(a.Nodes(), b.Nodes()) {
		t.Errorf("%s: other nodes behind the same calls", what)
	}
}
