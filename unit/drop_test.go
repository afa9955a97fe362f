package unit

import (
	"testing"

	"tideline/api"
	"tideline/device"
)

// What is gone isn't kept: neither behind a trim of few addresses, nor of many, nor when the device is opened again.
func TestGoneCellsAreNotKept(t *testing.T) {
	d, _ := device.New(200)
	u, _ := Open(d)
	for at := range 100 {
		u.Write(0, at*3, api.Cell{What: api.CellJunk})
	}
	for _, c := range []struct{ low, kept int }{{1, 99}, {3, 99}, {4, 98}, {30, 90}, {240, 20}, {297, 1}, {298, 0}, {api.MaxAddress, 0}} {
		if e := u.Trim(0, c.low); e != api.OK || len(u.cells) != c.kept {
			t.Errorf("Trim to %d: %d, %d cells are kept, not %d", c.low, e, len(u.cells), c.kept)
		}
		again, e := Open(d)
		if e != api.OK || len(again.cells) != c.kept {
			t.Errorf("opened behind a trim to %d: %d, %d cells are kept, not %d", c.low, e, len(again.cells), c.kept)
		}
	}
}

// What is asked of an instance that nothing was written of is not kept.
func TestInstancesThatWereAskedAreNotKept(t *testing.T) {
	d, _ := device.New(1)
	u, _ := Open(d)
	for n := range 50 {
		u.Promise(n, api.Ballot{})
		u.Promise(n, api.Ballot{Round: -1})
	}
	if len(u.instances) != 0 || d.Free() != 1 {
		t.Errorf("%d instances are kept, %d pages are free", len(u.instances), d.Free())
	}
}
