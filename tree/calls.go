package tree

import (
	"bytes"
	"maps"
	"slices"

	"tideline/api"
	"tideline/path"
)

// add makes a new node of that kind, with a path's place for its entry.
func (t *Tree) add(s string, kind int) api.Errno {
	at, code := t.findPlace(s)
	if code != api.OK {
		return code
	}
	if len(t.nodes) == api.MaxNodes {
		return api.ErrNoSpace
	}
	number := t.free()
	t.nodes[number] = newNode(kind)
	at.above.entries[at.name] = number
	return api.OK
}

// free gives the least number that no node has.
func (t *Tree) free() int {
	number := root
	for t.nodes[number] != nil {
		number++
	}
	return number
}

func (t *Tree) removeDirectory(c api.Call) api.Errno {
	at, number, code := t.findEntry(c.Path)
	if code != api.OK {
		return code
	}
	if t.nodes[number].kind != api.Directory {
		return api.ErrNotDir
	}
	if len(t.nodes[number].entries) > 0 {
		return api.ErrNotEmpty
	}
	delete(at.above.entries, at.name)
	delete(t.nodes, number)
	return api.OK
}

func (t *Tree) unlink(c api.Call) api.Errno {
	at, number, code := t.findEntry(c.Path)
	if code != api.OK {
		return code
	}
	file := t.nodes[number]
	if file.kind == api.Directory {
		return api.ErrIsDir
	}
	delete(at.above.entries, at.name)
	file.links--
	if file.links == 0 {
		delete(t.nodes, number)
	}
	return api.OK
}

func (t *Tree) link(c api.Call) api.Errno {
	number, code := t.findFile(c.Path)
	if code != api.OK {
		return code
	}
	to, code := t.findPlace(c.Other)
	if code != api.OK {
		return code
	}
	to.above.entries[to.name] = number
	t.nodes[number].links++
	return api.OK
}

func (t *Tree) rename(c api.Call) api.Errno {
	from, number, code := t.findEntry(c.Path)
	if code != api.OK {
		return code
	}
	if c.Other == c.Path {
		return api.OK
	}
	if path.Inside(c.Other, c.Path) {
		return api.ErrInside
	}
	to, code := t.findPlace(c.Other)
	if code != api.OK {
		return code
	}
	delete(from.above.entries, from.name)
	to.above.entries[to.name] = number
	return api.OK
}

func (t *Tree) write(c api.Call) api.Errno {
	number, code := t.findFile(c.Path)
	if code != api.OK {
		return code
	}
	if c.Off < 0 || len(c.Data) > api.MaxCall {
		return api.ErrArg
	}
	if c.Off > api.MaxFile-len(c.Data) {
		return api.ErrNoSpace
	}
	if len(c.Data) == 0 {
		return api.OK
	}
	file := t.nodes[number]
	file.resize(max(len(file.data), c.Off+len(c.Data)))
	copy(file.data[c.Off:], c.Data)
	return api.OK
}

func (t *Tree) cut(c api.Call) api.Errno {
	number, code := t.findFile(c.Path)
	if code != api.OK {
		return code
	}
	if c.N < 0 {
		return api.ErrArg
	}
	if c.N > api.MaxFile {
		return api.ErrNoSpace
	}
	t.nodes[number].resize(c.N)
	return api.OK
}

// resize leaves a file its first bytes, so many of them, or puts noughts behind them.
func (file *node) resize(size int) {
	data := make([]byte, size)
	copy(data, file.data)
	file.data = data
}

func (t *Tree) read(c api.Call) api.Answer {
	number, code := t.findFile(c.Path)
	if code != api.OK {
		return api.Answer{Err: code}
	}
	if c.Off < 0 || c.N < 0 || c.N > api.MaxCall {
		return api.Answer{Err: api.ErrArg}
	}
	data := t.nodes[number].data
	behind := data[min(c.Off, len(data)):]
	return api.Answer{Data: bytes.Clone(behind[:min(c.N, len(behind))])}
}

func (t *Tree) stat(c api.Call) api.Answer {
	number, code := t.find(c.Path)
	if code != api.OK {
		return api.Answer{Err: code}
	}
	found := t.nodes[number]
	// A directory has no bytes, and a file no entries.
	return api.Answer{Kind: found.kind, Size: len(found.data) + len(found.entries), Links: found.links}
}

func (t *Tree) list(c api.Call) api.Answer {
	directory, code := t.findDirectory(c.Path)
	if code != api.OK {
		return api.Answer{Err: code}
	}
	return api.Answer{Names: slices.Sorted(maps.Keys(directory.entries))}
}
