package snap_test

import (
	"bytes"
	"math"
	"math/rand"
	"slices"
	"strings"
	"testing"

	"tideline/api"
	"tideline/snap"
	"tideline/tree"
)

func wantTree(t *testing.T, what string, b []byte, upto int, nodes []api.Node) {
	t.Helper()
	got, r, e := snap.Decode(b)
	if e != api.OK || r == nil || got != upto {
		t.Errorf("%s: %d, %v, %d", what, got, r, e)
		return
	}
	if !sameNodes(r.Nodes(), nodes) {
		t.Errorf("%s: other nodes", what)
	}
}

func wantForm(t *testing.T, what string, b []byte) {
	t.Helper()
	if upto, r, e := snap.Decode(b); e != api.ErrForm || r != nil || upto != 0 {
		t.Errorf("%s: %d, %v, %d", what, upto, r, e)
	}
}

// P6.1

func TestExample(t *testing.T) {
	wantTree(t, "a new tree", snap.Encode(5, tree.New()), 5, []api.Node{{Number: 0, Kind: api.Directory, Links: 1}})
}

func TestEncodeByHand(t *testing.T) {
	held := []byte{
		0, 0, 0, 0, 0, 0, 0, 5,
		0, 0, 0, 1,
		0, 1, 0, 1, 0, 0, 0, 0, 0, 0, 0, 0,
	}
	if b := snap.Encode(5, tree.New()); !bytes.Equal(b, summed(held)) {
		t.Errorf("a new tree: %#v", b)
	}
	held = []byte{
		0, 0, 0, 0, 0, 0, 1, 2,
		0, 0, 0, 4,
		0, 1, 0, 1, 0, 0, 0, 0, 0, 0, 0, 3,
		0, 0, 0, 1, 'd', 1, 0, 0, 0, 1, 'g', 2, 0, 0, 0, 1, 'h', 3,
		1, 1, 0, 1, 0, 0, 0, 0, 0, 0, 0, 1,
		0, 0, 0, 1, 'f', 2,
		2, 2, 0, 2, 0, 0, 0, 4, 0, 'x', 'y', 'z', 0, 0, 0, 0,
		3, 2, 0, 1, 0, 0, 0, 0, 0, 0, 0, 0,
	}
	if b := snap.Encode(258, sample(t)); !bytes.Equal(b, summed(held)) {
		t.Errorf("a tree with files: %#v", b)
	}
	wantTree(t, "a tree with files", summed(held), 258, sampleNodes())
}

func TestEncodeIsOfNodes(t *testing.T) {
	for i, r := range someTrees(t) {
		if b := snap.Encode(i, r); !bytes.Equal(b, snapBytes(i, r.Nodes())) {
			t.Errorf("tree %d", i)
		}
	}
}

func TestDecodeOfEncode(t *testing.T) {
	for i, r := range someTrees(t) {
		wantTree(t, "a tree", snapBytes(i, r.Nodes()), i, r.Nodes())
	}
}

func TestUpto(t *testing.T) {
	for _, upto := range []int{0, 1, 255, 256, 1<<31 - 1, 1 << 31, 1<<32 - 1, 1 << 32} {
		if b := snap.Encode(upto, sample(t)); !bytes.Equal(b, snapBytes(upto, sampleNodes())) {
			t.Errorf("Encode of %d", upto)
		}
		wantTree(t, "upto", snapBytes(upto, sampleNodes()), upto, sampleNodes())
	}
	for _, upto := range []int{-1, -2, math.MinInt, 1<<32 + 1, 1 << 33, 1 << 62, math.MaxInt} {
		if b := snap.Encode(upto, sample(t)); !bytes.Equal(b, snapBytes(upto, sampleNodes())) {
			t.Errorf("Encode of %d", upto)
		}
		wantForm(t, "upto", snapBytes(upto, sampleNodes()))
	}
}

// Two bytes tell of links what fits; a tree of more has these bytes all the same, and no other tree has.
func TestManyLinks(t *testing.T) {
	for _, links := range []int{1, 255, 256, 65535, 65536, 65537, 2*65536 + 1} {
		nodes := linkedNodes(links)
		b := snap.Encode(7, loaded(t, nodes))
		if !bytes.Equal(b, snapBytes(7, nodes)) {
			t.Errorf("Encode, %d links", links)
		}
		wantTree(t, "links", b, 7, nodes)
		nodes[1].Links++
		wantForm(t, "one link too many", snapBytes(7, nodes))
		nodes[1].Links -= 2
		wantForm(t, "one link too few", snapBytes(7, nodes))
	}
}

// Links that are told are all that fits into two bytes, not less of it.
func TestLinksOfFewerBits(t *testing.T) {
	for bits := range 16 {
		nodes := linkedNodes(1<<bits + 1)
		nodes[1].Links = 1
		wantForm(t, "links that lack a bit", snapBytes(0, nodes))
	}
}

// A directory's links are 1: more that fit into two bytes as 1 are no directory's.
func TestManyEntriesOfADirectory(t *testing.T) {
	for _, links := range []int{65536, 65537} {
		nodes := linkedNodes(links)
		nodes[1].Kind, nodes[1].Data = api.Directory, nil
		wantForm(t, "a directory with many links", snapBytes(0, nodes))
		nodes[1].Links = 1
		wantForm(t, "a directory with many entries", snapBytes(0, nodes))
		for i := range nodes[0].Entries {
			nodes[0].Entries[i].Node = 0
		}
		wantForm(t, "the root with many entries", snapBytes(0, nodes[:1]))
	}
}

func TestDecodeNoTree(t *testing.T) {
	for what, change := range map[string]func(n []api.Node) []api.Node{
		"no nodes":                 func(n []api.Node) []api.Node { return nil },
		"no root":                  func(n []api.Node) []api.Node { return n[1:] },
		"the root alone":           func(n []api.Node) []api.Node { return n[:1] },
		"a node is missing":        func(n []api.Node) []api.Node { return slices.Delete(n, 2, 3) },
		"not rising":               func(n []api.Node) []api.Node { n[1], n[2] = n[2], n[1]; return n },
		"a node twice":             func(n []api.Node) []api.Node { return append(n, n[3]) },
		"one too many":             func(n []api.Node) []api.Node { return append(n, api.Node{Number: 4, Kind: api.File}) },
		"one that nobody reaches":  func(n []api.Node) []api.Node { return append(n, api.Node{Number: 4, Kind: api.Directory, Links: 1}) },
		"a number above 63":        func(n []api.Node) []api.Node { n[3].Number, n[0].Entries[2].Node = 64, 64; return n },
		"a number of 255":          func(n []api.Node) []api.Node { n[3].Number, n[0].Entries[2].Node = 255, 255; return n },
		"the root is a file":       func(n []api.Node) []api.Node { return []api.Node{{Kind: api.File, Links: 1}} },
		"the kind 0":               func(n []api.Node) []api.Node { n[3].Kind = 0; return n },
		"the kind 3":               func(n []api.Node) []api.Node { n[3].Kind = 3; return n },
		"the kind 255":             func(n []api.Node) []api.Node { n[3].Kind = 255; return n },
		"a directory as a file":    func(n []api.Node) []api.Node { n[1].Kind = api.File; return n },
		"a file in two places":     func(n []api.Node) []api.Node { n[2].Kind, n[2].Data = api.Directory, nil; return n },
		"no links of the root":     func(n []api.Node) []api.Node { n[0].Links = 0; return n },
		"two links of the root":    func(n []api.Node) []api.Node { n[0].Links = 2; return n },
		"two links of a directory": func(n []api.Node) []api.Node { n[1].Links = 2; return n },
		"a link too few":           func(n []api.Node) []api.Node { n[2].Links = 1; return n },
		"a link too many":          func(n []api.Node) []api.Node { n[2].Links = 3; return n },
		"256 links more":           func(n []api.Node) []api.Node { n[2].Links = 258; return n },
		"no links":                 func(n []api.Node) []api.Node { n[3].Links = 0; return n },
		"data of a directory":      func(n []api.Node) []api.Node { n[1].Data = []byte{0}; return n },
		"too much data":            func(n []api.Node) []api.Node { n[3].Data = make([]byte, 513); return n },
		"far too much data":        func(n []api.Node) []api.Node { n[3].Data = make([]byte, 70000); return n },
		"entries of a file": func(n []api.Node) []api.Node {
			n[3].Entries = []api.Entry{{Name: "x", Node: 2}}
			n[2].Links = 3
			return n
		},
		"entries not rising":        func(n []api.Node) []api.Node { e := n[0].Entries; e[1], e[2] = e[2], e[1]; return n },
		"a name twice":              func(n []api.Node) []api.Node { n[0].Entries[1].Name = "d"; return n },
		"an entry of none":          func(n []api.Node) []api.Node { n[0].Entries[2].Node = 4; return n },
		"an entry of 255":           func(n []api.Node) []api.Node { n[0].Entries[2].Node = 255; return n },
		"an entry of the root":      func(n []api.Node) []api.Node { n[1].Entries[0].Node = 0; n[2].Links = 1; return n },
		"an entry of its directory": func(n []api.Node) []api.Node { n[0].Entries[0].Node, n[1].Entries[0].Node = 2, 1; return n },
		"no name":                   func(n []api.Node) []api.Node { n[0].Entries[0].Name = ""; return n },
		"the name .":                func(n []api.Node) []api.Node { n[0].Entries[0].Name = "."; return n },
		"the name ..":               func(n []api.Node) []api.Node { n[0].Entries[0].Name = ".."; return n },
		"a name with /":             func(n []api.Node) []api.Node { n[0].Entries[0].Name = "a/b"; return n },
		"a name with 0":             func(n []api.Node) []api.Node { n[0].Entries[0].Name = "a\x00"; return n },
		"a name too long":           func(n []api.Node) []api.Node { n[1].Entries[0].Name = "0123456789abcdefg"; return n },
		"a name far too long":       func(n []api.Node) []api.Node { n[1].Entries[0].Name = strings.Repeat("f", 70000); return n },
		"65 nodes":                  func(n []api.Node) []api.Node { return chainNodes(65) },
		"1000 nodes":                func(n []api.Node) []api.Node { return chainNodes(1000) },
	} {
		wantForm(t, what, snapBytes(3, change(sampleNodes())))
	}
}

func TestDecodeRing(t *testing.T) {
	nodes := append(sampleNodes(),
		api.Node{Number: 4, Kind: api.Directory, Links: 1, Entries: []api.Entry{{Name: "x", Node: 5}}},
		api.Node{Number: 5, Kind: api.Directory, Links: 1, Entries: []api.Entry{{Name: "x", Node: 4}}})
	wantForm(t, "two directories, each beneath the other", snapBytes(3, nodes))
}

func TestDecodeSpoiled(t *testing.T) {
	whole := snapBytes(258, sampleNodes())
	held := whole[:len(whole)-4]
	for i := range whole {
		for bit := range 8 {
			b := slices.Clone(whole)
			b[i] ^= 1 << bit
			wantForm(t, "a bit is turned", b)
		}
		wantForm(t, "cut", whole[:i])
	}
	for i := range held {
		wantForm(t, "cut, with a sum", summed(held[:i]))
		wantForm(t, "without its first bytes, with a sum", summed(held[i+1:]))
	}
	wantForm(t, "one byte more", append(slices.Clone(whole), 0))
	wantForm(t, "one byte more, with a sum", summed(held, []byte{0}))
	wantForm(t, "twice, with a sum", summed(held, held))
	wantForm(t, "a sum of the sum", summed(whole))
	wantForm(t, "without a sum", held)
	wantForm(t, "nothing", nil)
	wantForm(t, "nothing, with a sum", summed())
	wantForm(t, "upto alone", summed(num(0)))
}

func TestDecodeCountsThatLie(t *testing.T) {
	most, none := []byte{255, 255, 255, 255}, count(0)
	root := []byte{0, 1, 0, 1}
	wantForm(t, "nodes", summed(num(0), most, root, none, none, make([]byte, 1000)))
	wantForm(t, "nodes, by one", summed(num(0), count(2), root, none, none))
	wantForm(t, "Data", summed(num(0), count(1), root, most, make([]byte, 1000)))
	wantForm(t, "entries", summed(num(0), count(1), root, none, most, make([]byte, 1000)))
	wantForm(t, "entries, by one", summed(num(0), count(1), root, none, count(1)))
	wantForm(t, "a name", summed(num(0), count(1), root, none, count(1), most, make([]byte, 1000)))
	wantTree(t, "counts that don't", summed(num(0), count(1), root, none, none), 0, tree.New().Nodes())
}

func TestMemory(t *testing.T) {
	r := sample(t)
	b, again := snap.Encode(9, r), snap.Encode(9, r)
	clear(again)
	if !bytes.Equal(b, snapBytes(9, sampleNodes())) || !sameNodes(r.Nodes(), sampleNodes()) {
		t.Error("two answers of Encode, or one and the tree, are one")
	}
	_, first, _ := snap.Decode(b)
	_, second, _ := snap.Decode(b)
	for range 2 {
		first.Do(api.Call{Kind: api.CallWrite, Path: "/g", Data: []byte("123456")})
		first.Do(api.Call{Kind: api.CallUnlink, Path: "/h"})
	}
	if !bytes.Equal(b, snapBytes(9, sampleNodes())) || !sameNodes(second.Nodes(), sampleNodes()) {
		t.Error("two answers of Decode, or one and what was handed in, are one")
	}
	clear(b)
	if !sameNodes(second.Nodes(), sampleNodes()) {
		t.Error("what was handed in is kept")
	}
}

// P6.2

func TestSameNodesSameBytes(t *testing.T) {
	other := grown(t,
		api.Call{Kind: api.CallCreate, Path: "/x"},
		api.Call{Kind: api.CallCreate, Path: "/g"},
		api.Call{Kind: api.CallWrite, Path: "/g", Off: 1, Data: []byte("xyz12")},
		api.Call{Kind: api.CallUnlink, Path: "/x"},
		api.Call{Kind: api.CallMkdir, Path: "/z"},
		api.Call{Kind: api.CallCreate, Path: "/z/h"},
		api.Call{Kind: api.CallLink, Path: "/g", Other: "/z/f"},
		api.Call{Kind: api.CallRename, Path: "/z/h", Other: "/h"},
		api.Call{Kind: api.CallCut, Path: "/z/f", N: 4},
		api.Call{Kind: api.CallRename, Path: "/z", Other: "/d"},
	)
	if !sameNodes(other.Nodes(), sampleNodes()) {
		t.Fatalf("other nodes: %+v", other.Nodes())
	}
	b := snap.Encode(1, other)
	if !bytes.Equal(b, snap.Encode(1, sample(t))) || !bytes.Equal(b, snap.Encode(1, loaded(t, sampleNodes()))) {
		t.Error("other bytes")
	}
}

func TestAnswersAlike(t *testing.T) {
	for i, r := range someTrees(t) {
		_, got, e := snap.Decode(snap.Encode(i, r))
		if e != api.OK {
			t.Errorf("tree %d: %d", i, e)
			continue
		}
		alike(t, "Decode of Encode", r, got, int64(i))
	}
	_, got, e := snap.Decode(snap.Encode(0, loaded(t, linkedNodes(65535))))
	if e != api.OK {
		t.Fatalf("65,535 links: %d", e)
	}
	stat := api.Call{Kind: api.CallStat, Path: "/000000"}
	if a := got.Do(stat); a.Links != 65535 || a.Size != 3 {
		t.Errorf("65,535 links: %+v", a)
	}
}

// P1 and P2

// wantRead looks whether Decode tells of bytes what the document does.
func wantRead(t *testing.T, b []byte) {
	t.Helper()
	was := slices.Clone(b)
	upto, r, e := snap.Decode(b)
	if !bytes.Equal(b, was) {
		t.Error("what was handed in")
	}
	want, nodes, is := readSnap(b)
	if !is {
		if e != api.ErrForm || r != nil || upto != 0 {
			t.Errorf("%q: %d, %v, %d", b, upto, r, e)
		}
		return
	}
	if e != api.OK || upto != want || !sameNodes(r.Nodes(), nodes) {
		t.Errorf("%q: %d, %v, %d", b, upto, r, e)
		return
	}
	if !bytes.Equal(snap.Encode(upto, r), b) || !bytes.Equal(snap.Encode(upto, r), b) {
		t.Errorf("%q: Encode of Decode are other bytes", b)
	}
}

// TestDecodeOfAlmost goes through bytes that are a few bytes away from a checkpoint's, their sum made right again.
func TestDecodeOfAlmost(t *testing.T) {
	from := rand.New(rand.NewSource(6))
	for _, r := range someTrees(t) {
		whole := snapBytes(from.Intn(1000), r.Nodes())
		held := whole[:len(whole)-4]
		for range 200 {
			b := slices.Clone(held)
			for range from.Intn(3) {
				b[from.Intn(len(b))] = byte(from.Intn(4))
			}
			wantRead(t, summed(b))
		}
	}
}

func FuzzDecode(f *testing.F) {
	for _, r := range someTrees(f)[:14] {
		whole := snapBytes(5, r.Nodes())
		f.Add(whole[:len(whole)-4])
	}
	f.Add([]byte{})
	f.Add([]byte{1, 2, 3})
	f.Fuzz(func(t *testing.T, held []byte) {
		wantRead(t, held)
		wantRead(t, summed(held))
	})
}
