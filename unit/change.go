package unit

import (
	"math"

	"tideline/api"
	"tideline/octet"
)

// The kinds of changes, by the first bytes of their pages.
const (
	toData byte = iota + 1
	toJunk
	toLow
	toEpoch
	toPromise
	toAccept
)

const (
	// numberSize is how many bytes a page's numbers have.
	numberSize = 8
	// maxValue is how many bytes a value may have.
	maxValue = 1000
)

// change is what a page tells.
type change struct {
	kind   byte
	number int        // an address, an epoch or an instance
	ballot api.Ballot // if it is an acceptor's
	held   []byte     // data, or a value
}

// writing gives the change that lets an address's cell be x.
func writing(at int, x api.Cell) (change, api.Errno) {
	c := change{number: at, held: x.Data}
	switch x.What {
	case api.CellData:
		c.kind = toData
	case api.CellJunk:
		c.kind = toJunk
	}
	if !c.right() {
		return change{}, api.ErrArg
	}
	return c, api.OK
}

// page gives a change's bytes.
func (c change) page() []byte {
	w := &octet.Writer{}
	w.Byte(c.kind)
	putNumbers(w, c.number)
	if c.hasBallot() {
		putNumbers(w, c.ballot.Round, c.ballot.Who)
	}
	if c.holds() {
		w.Bytes(c.held)
	}
	return w.Out()
}

// read gives the change of bytes.
func read(page []byte) (change, api.Errno) {
	r := octet.Read(page)
	c := change{kind: r.Byte()}
	takeNumbers(r, &c.number)
	if c.hasBallot() {
		takeNumbers(r, &c.ballot.Round, &c.ballot.Who)
	}
	if c.holds() {
		c.held = r.Bytes(c.most())
	}
	if r.End() != api.OK || !c.right() {
		return change{}, api.ErrForm
	}
	return c, api.OK
}

func putNumbers(w *octet.Writer, numbers ...int) {
	for _, n := range numbers {
		w.Number(uint64(n), numberSize)
	}
}

func takeNumbers(r *octet.Reader, into ...*int) {
	for _, n := range into {
		*n = int(r.Number(numberSize))
	}
}

func (c change) hasBallot() bool { return c.kind == toPromise || c.kind == toAccept }

func (c change) holds() bool { return c.kind == toData || c.kind == toAccept }

// most tells how many bytes a change may hold.
func (c change) most() int {
	switch c.kind {
	case toData:
		return api.MaxEntry
	case toAccept:
		return maxValue
	}
	return 0
}

// right tells whether there may be such a change.
func (c change) right() bool {
	if len(c.held) > c.most() {
		return false
	}
	switch c.kind {
	case toData, toJunk, toLow:
		return isAddress(c.number)
	case toEpoch:
		return counts(c.number)
	case toPromise, toAccept:
		return c.number != 0 && counts(c.number) && counts(c.ballot.Round) && counts(c.ballot.Who)
	}
	return false
}

func isAddress(n int) bool { return n >= 0 && n <= api.MaxAddress }

// counts tells whether an epoch, an instance or a ballot may have a number.
func counts(n int) bool { return n >= 0 && n <= math.MaxInt32 }
