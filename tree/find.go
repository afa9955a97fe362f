package tree

import (
	"tideline/api"
	"tideline/path"
)

// place is where an entry stands, or may come: in which directory, by which name.
type place struct {
	above *node
	name  string
}

// find gives the number of a path's node.
func (t *Tree) find(s string) (int, api.Errno) {
	names, code := path.Split(s)
	if code != api.OK {
		return 0, code
	}
	number := root
	for _, name := range names {
		if t.nodes[number].kind != api.Directory {
			return 0, api.ErrNotDir
		}
		below, has := t.nodes[number].entries[name]
		if !has {
			return 0, api.ErrNoEntry
		}
		number = below
	}
	return number, api.OK
}

// findFile gives the number of a path's node, if that is a file.
func (t *Tree) findFile(s string) (int, api.Errno) {
	number, code := t.find(s)
	if code == api.OK && t.nodes[number].kind == api.Directory {
		return 0, api.ErrIsDir
	}
	return number, code
}

// findDirectory gives a path's node, if that is a directory.
func (t *Tree) findDirectory(s string) (*node, api.Errno) {
	number, code := t.find(s)
	if code != api.OK {
		return nil, code
	}
	if t.nodes[number].kind != api.Directory {
		return nil, api.ErrNotDir
	}
	return t.nodes[number], api.OK
}

// above gives the place of a path, whether an entry stands there or not. The root has none: it has no name.
func (t *Tree) above(s string) (place, api.Errno) {
	parent, name, code := path.Parent(s)
	if code != api.OK {
		return place{}, code
	}
	directory, code := t.findDirectory(parent)
	return place{above: directory, name: name}, code
}

// findPlace gives the place of a path for a new entry.
func (t *Tree) findPlace(s string) (place, api.Errno) {
	at, code := t.above(s)
	if code != api.OK {
		return place{}, code
	}
	if _, has := at.above.entries[at.name]; has {
		return place{}, api.ErrExists
	}
	return at, api.OK
}

// findEntry gives the place of a path where an entry stands, and the number of its node.
func (t *Tree) findEntry(s string) (place, int, api.Errno) {
	at, code := t.above(s)
	if code != api.OK {
		return place{}, 0, code
	}
	number, has := at.above.entries[at.name]
	if !has {
		return place{}, 0, api.ErrNoEntry
	}
	return at, number, api.OK
}
