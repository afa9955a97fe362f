package summed_test

import (
	"bytes"
	"encoding/binary"
	"hash/crc32"
	"slices"
	"testing"

	"tideline/api"
	"tideline/octet"
	"tideline/summed"
)

// withSum gives bytes with their sum behind, as layer 2 tells it.
func withSum(held ...byte) []byte {
	return binary.BigEndian.AppendUint32(slices.Clone(held), crc32.ChecksumIEEE(held))
}

func takePair(r *octet.Reader) [2]byte { return [2]byte{r.Byte(), r.Byte()} }

func TestPut(t *testing.T) {
	got := summed.Put(func(w *octet.Writer) { w.Byte(7); w.Byte(8) })
	if !bytes.Equal(got, withSum(7, 8)) {
		t.Errorf("%v", got)
	}
	if got := summed.Put(func(*octet.Writer) {}); !bytes.Equal(got, withSum()) {
		t.Errorf("nothing put: %v", got)
	}
}

func TestTake(t *testing.T) {
	b := withSum(7, 8)
	if x, e := summed.Take(b, takePair); e != api.OK || x != [2]byte{7, 8} {
		t.Errorf("%v, %d", x, e)
	}
	if !bytes.Equal(b, withSum(7, 8)) {
		t.Errorf("what was handed in: %v", b)
	}
}

func TestTakeForm(t *testing.T) {
	turned := withSum(7, 8)
	turned[0] ^= 1
	bad := [][]byte{nil, {}, {7, 8}, {0, 0, 0}, turned, withSum(7, 8)[:5], append(withSum(7, 8), 0), withSum(), withSum(7), withSum(7, 8, 9)}
	for _, b := range bad {
		if x, e := summed.Take(b, takePair); e != api.ErrForm || x != [2]byte{} {
			t.Errorf("%v: %v, %d", b, x, e)
		}
	}
}
