// Package check is layer 2: see shared/doc/02-check.md.
package check

import (
	"slices"

	"tideline/api"
	"tideline/octet"
)

// sumSize is how many bytes a sum has.
const sumSize = 4

// four tells what four bits do to a sum, when they have gone out of it to the right.
var four = [16]uint32{
	0x00000000, 0x1db71064, 0x3b6e20c8, 0x26d930ac,
	0x76dc4190, 0x6b6b51f4, 0x4db26158, 0x5005713c,
	0xedb88320, 0xf00f9344, 0xd6d6a3e8, 0xcb61b38c,
	0x9b64c2b0, 0x86d3d2d4, 0xa00ae278, 0xbdbdf21c,
}

// Sum gives the sum of bytes.
func Sum(b []byte) uint32 { return More(0, b) }

// More gives the sum of bytes behind others, of which that is the sum.
func More(sum uint32, b []byte) uint32 {
	bits := ^sum
	for _, x := range b {
		bits ^= uint32(x)
		for range 2 {
			bits = bits>>4 ^ four[bits&15]
		}
	}
	return ^bits
}

// Wrap gives bytes with their sum behind.
func Wrap(b []byte) []byte {
	w := octet.Writer{}
	w.Number(uint64(Sum(b)), sumSize)
	return slices.Concat(b, w.Out())
}

// Unwrap gives what is ahead of a sum that is right.
func Unwrap(b []byte) ([]byte, api.Errno) {
	end := len(b) - sumSize
	if end < 0 || octet.Read(b[end:]).Number(sumSize) != uint64(Sum(b[:end])) {
		return nil, api.ErrForm
	}
	return slices.Clone(b[:end]), api.OK
}
