package snap_test

import (
	"bytes"
	"encoding/binary"
	"hash/crc32"
	"slices"

	"tideline/api"
	"tideline/tree"
)

// summed gives bytes with their sum behind, as layer 2 tells it.
func summed(parts ...[]byte) []byte {
	held := slices.Concat(parts...)
	return binary.BigEndian.AppendUint32(held, crc32.ChecksumIEEE(held))
}

// num gives an int as bytes, count how many there are, text a text.
func num(n int) []byte     { return binary.BigEndian.AppendUint64(nil, uint64(n)) }
func count(n int) []byte   { return binary.BigEndian.AppendUint32(nil, uint32(n)) }
func text(s string) []byte { return append(count(len(s)), s...) }

// nodeBytes is what the document says of a node's bytes, and snapBytes of a checkpoint's.
func nodeBytes(n api.Node) []byte {
	b := []byte{byte(n.Number), byte(n.Kind), byte(n.Links >> 8), byte(n.Links)}
	b = slices.Concat(b, text(string(n.Data)), count(len(n.Entries)))
	for _, e := range n.Entries {
		b = append(append(b, text(e.Name)...), byte(e.Node))
	}
	return b
}

func snapBytes(upto int, nodes []api.Node) []byte {
	parts := [][]byte{num(upto), count(len(nodes))}
	for _, n := range nodes {
		parts = append(parts, nodeBytes(n))
	}
	return summed(parts...)
}

// cutter cuts bytes, and remembers when there were too few.
type cutter struct {
	rest  []byte
	short bool
}

func (c *cutter) cut(n int) []byte {
	if c.short || n > len(c.rest) {
		c.short = true
		return make([]byte, min(n, 8))
	}
	b := c.rest[:n]
	c.rest = c.rest[n:]
	return b
}

func (c *cutter) byte() int    { return int(c.cut(1)[0]) }
func (c *cutter) count() int   { return int(binary.BigEndian.Uint32(c.cut(4))) }
func (c *cutter) text() string { return string(c.cut(c.count())) }

func (c *cutter) node() api.Node {
	n := api.Node{Number: c.byte(), Kind: c.byte(), Links: c.byte()<<8 + c.byte()}
	n.Data = []byte(c.text())
	for range c.count() {
		if c.short {
			break
		}
		n.Entries = append(n.Entries, api.Entry{Name: c.text(), Node: c.byte()})
	}
	return n
}

// readSnap reads a checkpoint's bytes as the document tells them: the nodes are those of some tree, with as many links as they have entries, or it is none.
func readSnap(b []byte) (upto int, nodes []api.Node, is bool) {
	if len(b) < 4 || !bytes.Equal(summed(b[:len(b)-4]), b) {
		return 0, nil, false
	}
	c := &cutter{rest: b[:len(b)-4]}
	upto = int(binary.BigEndian.Uint64(c.cut(8)))
	for range c.count() {
		if c.short {
			break
		}
		nodes = append(nodes, c.node())
	}
	if c.short || len(c.rest) > 0 || upto < 0 || upto > 1<<32 || !widen(nodes) {
		return 0, nil, false
	}
	_, code := tree.Load(nodes)
	return upto, nodes, code == api.OK
}

// widen puts the links that entries come to in the place of those that were read, if these are what fits into two bytes.
func widen(nodes []api.Node) bool {
	for i, n := range nodes {
		links := 0
		for _, above := range nodes {
			for _, e := range above.Entries {
				if e.Node == n.Number {
					links++
				}
			}
		}
		if n.Number == 0 {
			links++
		}
		if links%65536 != n.Links {
			return false
		}
		nodes[i].Links = links
	}
	return true
}

func sameNodes(a, b []api.Node) bool {
	return slices.EqualFunc(a, b, func(x, y api.Node) bool {
		return x.Number == y.Number && x.Kind == y.Kind && x.Links == y.Links && bytes.Equal(x.Data, y.Data) && slices.Equal(x.Entries, y.Entries)
	})
}

func sameAnswer(a, b api.Answer) bool {
	return a.Err == b.Err && a.Kind == b.Kind && a.Size == b.Size && a.Links == b.Links && bytes.Equal(a.Data, b.Data) && slices.Equal(a.Names, b.Names)
}
