package tree

import (
	"bytes"
	"maps"
	"slices"

	"tideline/api"
	"tideline/path"
)

// Nodes gives all nodes, by their numbers.
func (t *Tree) Nodes() []api.Node {
	var nodes []api.Node
	for _, number := range slices.Sorted(maps.Keys(t.nodes)) {
		n := t.nodes[number]
		nodes = append(nodes, api.Node{Number: number, Kind: n.kind, Links: n.links, Data: bytes.Clone(n.data), Entries: n.list()})
	}
	return nodes
}

// list gives a node's entries, rising by their names.
func (n *node) list() []api.Entry {
	var list []api.Entry
	for _, name := range slices.Sorted(maps.Keys(n.entries)) {
		list = append(list, api.Entry{Name: name, Node: n.entries[name]})
	}
	return list
}

// Load gives the tree of nodes.
func Load(nodes []api.Node) (*Tree, api.Errno) {
	t := &Tree{nodes: map[int]*node{}}
	last := root - 1
	for _, told := range nodes {
		if told.Number <= last || told.Number >= api.MaxNodes || !mayBe(told) {
			return nil, api.ErrForm
		}
		last = told.Number
		t.nodes[told.Number] = load(told)
	}
	if !t.rooted() || !t.linked() || !t.whole() {
		return nil, api.ErrForm
	}
	return t, api.OK
}

// mayBe tells whether a node by itself, whatever the others are, is as Nodes would tell it.
func mayBe(told api.Node) bool {
	if told.Kind == api.Directory {
		return told.Links == 1 && len(told.Data) == 0 && rising(told.Entries)
	}
	return told.Kind == api.File && len(told.Data) <= api.MaxFile && len(told.Entries) == 0
}

// rising tells whether entries have names, each ahead of the next one.
func rising(entries []api.Entry) bool {
	last := ""
	for _, entry := range entries {
		if !path.Name(entry.Name) || entry.Name <= last {
			return false
		}
		last = entry.Name
	}
	return true
}

// load gives a node of the tree that Nodes would tell so.
func load(told api.Node) *node {
	n := newNode(told.Kind)
	n.links, n.data = told.Links, bytes.Clone(told.Data)
	for _, entry := range told.Entries {
		n.entries[entry.Name] = entry.Node
	}
	return n
}

// rooted tells whether the root is a directory.
func (t *Tree) rooted() bool {
	first := t.nodes[root]
	return first != nil && first.kind == api.Directory
}

// linked tells whether each entry is of a node, and each node, but the root, of which there is none, of as many entries as its links are.
func (t *Tree) linked() bool {
	var entries [api.MaxNodes]int
	for _, above := range t.nodes {
		for _, number := range above.entries {
			if t.nodes[number] == nil {
				return false
			}
			entries[number]++
		}
	}
	entries[root]++ // the root's one link is no entry
	for number, n := range t.nodes {
		if entries[number] != n.links {
			return false
		}
	}
	return true
}

// reach marks a node, and all beneath it. It ends, for when the nodes are linked each directory is one entry's, and the root none's.
func (t *Tree) reach(number int, reached *[api.MaxNodes]bool) {
	reached[number] = true
	for _, below := range t.nodes[number].entries {
		t.reach(below, reached)
	}
}

// whole tells whether all nodes are reached from the root.
func (t *Tree) whole() bool {
	var reached [api.MaxNodes]bool
	t.reach(root, &reached)
	for number := range t.nodes {
		if !reached[number] {
			return false
		}
	}
	return true
}
