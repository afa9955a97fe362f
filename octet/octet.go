// Package octet is layer 1: see shared/doc/01-octet.md.
package octet

import (
	"iter"
	"slices"

	"tideline/api"
)

// How many bytes the numbers of an int, and of a count, have.
const (
	intSize   = 8
	countSize = 4
)

// Writer puts things behind one another.
type Writer struct{ put []byte }

// Byte puts a byte.
func (w *Writer) Byte(b byte) { w.put = append(w.put, b) }

// Number puts a number of so many bytes.
func (w *Writer) Number(v uint64, n int) {
	n = size(n)
	for i := range n {
		w.Byte(byte(v >> (8 * (n - 1 - i))))
	}
}

// Int puts a number that may be below 0.
func (w *Writer) Int(v int) { w.Number(uint64(v), intSize) }

// Bytes puts bytes, and how many there are.
func (w *Writer) Bytes(b []byte) {
	w.count(len(b))
	w.put = append(w.put, b...)
}

// Flag puts a truth.
func (w *Writer) Flag(is bool) {
	if is {
		w.Byte(1)
	} else {
		w.Byte(0)
	}
}

// Out gives all that was put.
func (w *Writer) Out() []byte { return slices.Clone(w.put) }

func (w *Writer) count(n int) { w.Number(uint64(n), countSize) }

// size gives the size of a number that is the nearest one to n.
func size(n int) int { return min(max(n, 0), intSize) }

// Reader takes things one behind the other.
type Reader struct {
	rest  []byte
	wrong bool
}

// Read gives a Reader of bytes.
func Read(b []byte) *Reader { return &Reader{rest: slices.Clone(b)} }

// Byte takes a byte.
func (r *Reader) Byte() byte { return byte(r.Number(1)) }

// Number takes a number of so many bytes.
func (r *Reader) Number(n int) uint64 {
	v := uint64(0)
	for _, b := range r.take(size(n)) {
		v = v<<8 | uint64(b)
	}
	return v
}

// Int takes a number that may be below 0.
func (r *Reader) Int() int { return int(r.Number(intSize)) }

// Bytes takes bytes, of which there are at most so many.
func (r *Reader) Bytes(most int) []byte { return r.take(r.count(most)) }

// Flag takes a truth.
func (r *Reader) Flag() bool {
	b := r.Byte()
	if b > 1 {
		r.fail()
	}
	return b == 1
}

// Left tells how many bytes are left.
func (r *Reader) Left() int { return len(r.rest) }

// End tells what was wrong, or that something is left.
func (r *Reader) End() api.Errno {
	if r.wrong || len(r.rest) > 0 {
		return api.ErrForm
	}
	return api.OK
}

// take cuts so many bytes off. Their room ends with them, because they are handed out: whoever appends to them must not come to what is left.
func (r *Reader) take(n int) []byte {
	if n > len(r.rest) {
		r.fail()
	}
	if r.wrong {
		return nil
	}
	taken := r.rest[:n:n]
	r.rest = r.rest[n:]
	return taken
}

// count takes how many there are: 0, if that goes wrong.
func (r *Reader) count(most int) int {
	n := int(r.Number(countSize))
	if n > most {
		r.fail()
	}
	if r.wrong {
		return 0
	}
	return n
}

func (r *Reader) fail() { r.rest, r.wrong = nil, true }

// List takes so many things at most, one behind the other.
func List[T any](r *Reader, most int, one func(*Reader) T) []T {
	var list []T
	for x := range things(r, r.count(most), one) {
		list = append(list, x)
	}
	if r.wrong {
		return nil
	}
	return list
}

// things goes through the next n things of r, as long as r doesn't go wrong.
func things[T any](r *Reader, n int, one func(*Reader) T) iter.Seq[T] {
	return func(yield func(T) bool) {
		for range n {
			x := one(r)
			if r.wrong || !yield(x) {
				return
			}
		}
	}
}

// PutList puts things, and how many there are.
func PutList[T any](w *Writer, list []T, one func(*Writer, T)) {
	w.count(len(list))
	for x := range slices.Values(list) {
		one(w, x)
	}
}
