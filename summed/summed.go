// Package summed is what the layers share whose things are bytes (layer 1) with their sum behind (layer 2).
package summed

import (
	"tideline/api"
	"tideline/check"
	"tideline/octet"
)

// Put gives what is put, with its sum behind.
func Put(put func(*octet.Writer)) []byte {
	w := &octet.Writer{}
	put(w)
	return check.Wrap(w.Out())
}

// Take gives the thing of bytes that hold it alone, and its sum behind.
func Take[T any](b []byte, take func(*octet.Reader) T) (T, api.Errno) {
	var none T
	held, code := check.Unwrap(b)
	if code != api.OK {
		return none, code
	}
	r := octet.Read(held)
	x := take(r)
	if code := r.End(); code != api.OK {
		return none, code
	}
	return x, api.OK
}
