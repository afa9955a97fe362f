package tree_test

import (
	"bytes"
	"math"
	"slices"
	"strings"

	"tideline/api"
	"tideline/path"
)

// model is what the document says of a tree, word by word, on the list of its nodes alone.
type model struct{ nodes []api.Node }

func newModel() *model { return &model{[]api.Node{{Kind: api.Directory, Links: 1}}} }

// copyNodes gives nodes that share nothing with those.
func copyNodes(nodes []api.Node) []api.Node {
	copied := slices.Clone(nodes)
	for i := range copied {
		copied[i].Data = slices.Clone(copied[i].Data)
		copied[i].Entries = slices.Clone(copied[i].Entries)
	}
	return copied
}

func sameNodes(a, b []api.Node) bool {
	return slices.EqualFunc(a, b, func(x, y api.Node) bool {
		return x.Number == y.Number && x.Kind == y.Kind && x.Links == y.Links && bytes.Equal(x.Data, y.Data) && slices.Equal(x.Entries, y.Entries)
	})
}

func sameAnswer(a, b api.Answer) bool {
	return a.Err == b.Err && a.Kind == b.Kind && a.Size == b.Size && a.Links == b.Links && bytes.Equal(a.Data, b.Data) && slices.Equal(a.Names, b.Names)
}

func (m *model) node(number int) *api.Node {
	for i := range m.nodes {
		if m.nodes[i].Number == number {
			return &m.nodes[i]
		}
	}
	return nil
}

// entry gives the number that a name is of in a directory, or -1.
func entry(n *api.Node, name string) int {
	for _, e := range n.Entries {
		if e.Name == name {
			return e.Node
		}
	}
	return -1
}

func (m *model) find(s string) (*api.Node, api.Errno) {
	names, code := path.Split(s)
	if code != api.OK {
		return nil, api.ErrName
	}
	at := m.node(0)
	for _, name := range names {
		if at.Kind != api.Directory {
			return nil, api.ErrNotDir
		}
		number := entry(at, name)
		if number < 0 {
			return nil, api.ErrNoEntry
		}
		at = m.node(number)
	}
	return at, api.OK
}

// cutLast cuts a path that isn't / into what is above it, and its last name.
func cutLast(s string) (string, string) {
	at := strings.LastIndexByte(s, '/')
	return s[:max(at, 1)], s[at+1:]
}

func (m *model) findPlace(s string) api.Errno {
	if _, code := path.Split(s); code != api.OK || s == "/" {
		return api.ErrName
	}
	above, name := cutLast(s)
	n, code := m.find(above)
	if code != api.OK {
		return code
	}
	if n.Kind != api.Directory {
		return api.ErrNotDir
	}
	if entry(n, name) >= 0 {
		return api.ErrExists
	}
	return api.OK
}

func (m *model) put(s string, number int) {
	above, name := cutLast(s)
	n, _ := m.find(above)
	n.Entries = append(n.Entries, api.Entry{Name: name, Node: number})
	slices.SortFunc(n.Entries, func(a, b api.Entry) int { return strings.Compare(a.Name, b.Name) })
}

func (m *model) drop(s string) {
	above, name := cutLast(s)
	n, _ := m.find(above)
	n.Entries = slices.DeleteFunc(n.Entries, func(e api.Entry) bool { return e.Name == name })
}

func (m *model) remove(number int) {
	m.nodes = slices.DeleteFunc(m.nodes, func(n api.Node) bool { return n.Number == number })
}

func (m *model) add(s string, kind int) api.Errno {
	if code := m.findPlace(s); code != api.OK {
		return code
	}
	if len(m.nodes) == 64 {
		return api.ErrNoSpace
	}
	number := 1
	for m.node(number) != nil {
		number++
	}
	m.put(s, number)
	m.nodes = append(m.nodes, api.Node{Number: number, Kind: kind, Links: 1})
	slices.SortFunc(m.nodes, func(a, b api.Node) int { return a.Number - b.Number })
	return api.OK
}

// do does a call as the document tells it: the answer, and the nodes, if they are others then.
func (m *model) do(c api.Call) api.Answer {
	no := func(code api.Errno) api.Answer { return api.Answer{Err: code} }
	if (c.Kind == api.CallRmdir || c.Kind == api.CallUnlink || c.Kind == api.CallRename) && c.Path == "/" {
		return no(api.ErrName)
	}
	switch c.Kind {
	case api.CallMkdir:
		return no(m.add(c.Path, api.Directory))
	case api.CallCreate:
		return no(m.add(c.Path, api.File))
	case api.CallSync:
		return no(api.OK)
	case api.CallRmdir, api.CallUnlink, api.CallLink, api.CallRename, api.CallWrite, api.CallRead, api.CallCut, api.CallStat, api.CallList:
		n, code := m.find(c.Path)
		if code != api.OK {
			return no(code)
		}
		return m.doWith(n, c)
	}
	return no(api.ErrArg)
}

func (m *model) doWith(n *api.Node, c api.Call) api.Answer {
	no := func(code api.Errno) api.Answer { return api.Answer{Err: code} }
	switch {
	case c.Kind == api.CallStat:
		return api.Answer{Kind: n.Kind, Size: len(n.Data) + len(n.Entries), Links: n.Links}
	case c.Kind == api.CallRename:
		return no(m.rename(n.Number, c))
	case n.Kind == api.Directory && (c.Kind == api.CallUnlink || c.Kind == api.CallLink || c.Kind == api.CallWrite || c.Kind == api.CallRead || c.Kind == api.CallCut):
		return no(api.ErrIsDir)
	case n.Kind == api.File && (c.Kind == api.CallRmdir || c.Kind == api.CallList):
		return no(api.ErrNotDir)
	case c.Kind == api.CallList:
		var names []string
		for _, e := range n.Entries {
			names = append(names, e.Name)
		}
		return api.Answer{Names: names}
	case c.Kind == api.CallRmdir && len(n.Entries) > 0:
		return no(api.ErrNotEmpty)
	case c.Kind == api.CallRmdir || c.Kind == api.CallUnlink:
		m.drop(c.Path)
		if n.Links--; n.Links == 0 {
			m.remove(n.Number)
		}
		return no(api.OK)
	case c.Kind == api.CallLink:
		if code := m.findPlace(c.Other); code != api.OK {
			return no(code)
		}
		n.Links++
		m.put(c.Other, n.Number)
		return no(api.OK)
	}
	return m.doBytes(n, c)
}

func (m *model) rename(number int, c api.Call) api.Errno {
	if c.Other == c.Path {
		return api.OK
	}
	if _, code := path.Split(c.Other); code == api.OK && strings.HasPrefix(c.Other, c.Path+"/") {
		return api.ErrInside
	}
	if code := m.findPlace(c.Other); code != api.OK {
		return code
	}
	m.drop(c.Path)
	m.put(c.Other, number)
	return api.OK
}

func (m *model) doBytes(n *api.Node, c api.Call) api.Answer {
	no := func(code api.Errno) api.Answer { return api.Answer{Err: code} }
	switch c.Kind {
	case api.CallWrite:
		if c.Off < 0 || len(c.Data) > 256 {
			return no(api.ErrArg)
		}
		if c.Off > 512 || c.Off+len(c.Data) > 512 {
			return no(api.ErrNoSpace)
		}
		for i, b := range c.Data {
			for len(n.Data) <= c.Off+i {
				n.Data = append(n.Data, 0)
			}
			n.Data[c.Off+i] = b
		}
	case api.CallRead:
		if c.Off < 0 || c.N < 0 || c.N > 256 {
			return no(api.ErrArg)
		}
		var data []byte
		for i, b := range n.Data {
			if i >= c.Off && len(data) < c.N {
				data = append(data, b)
			}
		}
		return api.Answer{Data: data}
	case api.CallCut:
		if c.N < 0 {
			return no(api.ErrArg)
		}
		if c.N > 512 {
			return no(api.ErrNoSpace)
		}
		n.Data = append(slices.Clone(n.Data), make([]byte, 512)...)[:c.N]
	}
	return no(api.OK)
}

// isTree is what the document says of the nodes of a tree.
func isTree(nodes []api.Node) bool {
	m := &model{nodes}
	entries := map[int][]int{} // the directories whose entries are of a node
	for i, n := range nodes {
		if n.Number < 0 || n.Number > 63 || i > 0 && n.Number <= nodes[i-1].Number {
			return false
		}
		if n.Kind != api.Directory && n.Kind != api.File || n.Kind == api.Directory && len(n.Data) > 0 || n.Kind == api.File && (len(n.Data) > 512 || len(n.Entries) > 0) {
			return false
		}
		for j, e := range n.Entries {
			if !path.Name(e.Name) || j > 0 && e.Name <= n.Entries[j-1].Name || m.node(e.Node) == nil {
				return false
			}
			entries[e.Node] = append(entries[e.Node], n.Number)
		}
	}
	if first := m.node(0); first == nil || first.Kind != api.Directory || len(entries[0]) > 0 || first.Links != 1 {
		return false
	}
	for _, n := range nodes[1:] {
		if len(entries[n.Number]) != n.Links || n.Links < 1 || n.Kind == api.Directory && n.Links != 1 {
			return false
		}
		at := n.Number
		for range 64 {
			if at != 0 {
				at = entries[at][0]
			}
			if len(entries[at]) == 0 {
				break
			}
		}
		if at != 0 {
			return false
		}
	}
	return true
}

// source gives numbers by bytes, and noughts when there are none left.
type source struct{ rest []byte }

func (s *source) next(below int) int {
	if len(s.rest) == 0 {
		return 0
	}
	b := s.rest[0]
	s.rest = s.rest[1:]
	return int(b) % below
}

// path gives a path of few names, or now and then a text that is none, or one of many.
func (s *source) path() string {
	names := []string{"a", "b", "c", "abcdefghijklmnop", "\xff"}
	switch s.next(24) {
	case 0:
		return []string{"/", "", "a", "//", "/a/", "/.", "/a/..", "/abcdefghijklmnopq", "/a\x00", "/a/a/a/a/a/a/a/a", "/a/a/a/a/a/a/a/a/a", "/" + strings.Repeat("a", 300)}[s.next(12)]
	case 1, 2, 3, 4, 5, 6, 7, 8:
		return "/" + names[s.next(3)]
	case 9, 10, 11, 12, 13, 14, 15:
		return "/" + names[s.next(3)] + "/" + names[s.next(4)]
	case 16, 17, 18, 19, 20:
		return "/" + names[s.next(2)] + "/" + names[s.next(2)] + "/" + names[s.next(3)]
	}
	text := ""
	for range 1 + s.next(8) {
		text += "/" + names[s.next(5)]
	}
	return text
}

func (s *source) number() int {
	edges := []int{0, 1, 2, 255, 256, 257, 511, 512, 513, -1, math.MaxInt, math.MaxInt - 1, math.MaxInt - 256, math.MinInt, 1 << 32, 1 << 31}
	if s.next(3) == 0 {
		return edges[s.next(len(edges))]
	}
	return s.next(128) + s.next(128)
}

// call gives a call: all its fields are filled, whether they count or not.
func (s *source) call() api.Call {
	kinds := []int{api.CallMkdir, api.CallMkdir, api.CallMkdir, api.CallCreate, api.CallCreate, api.CallCreate, api.CallLink, api.CallLink, api.CallRename, api.CallRename, api.CallRename, api.CallWrite, api.CallWrite, api.CallWrite, api.CallCut, api.CallRead, api.CallRead, api.CallRmdir, api.CallUnlink, api.CallUnlink, api.CallStat, api.CallList, api.CallSync, 0, 13, -1, 14, 257}
	c := api.Call{Kind: kinds[s.next(len(kinds))], Path: s.path(), Other: s.path(), Off: s.number(), N: s.number()}
	if size := s.next(8); size > 0 {
		c.Data = bytes.Repeat([]byte{byte(1 + s.next(255))}, []int{0, 1, 2, 3, 100, 255, 256, 257}[size])
	}
	return c
}
