package sealed_test

import (
	"bytes"
	"math/rand"
	"slices"
	"testing"

	"folio/api"
	"folio/container"
	"folio/crc"
	"folio/record"
	"folio/sealed"
)

// wantSameOrCorrupt looks at all that a segment of l answers, some bytes of which were changed, and gives the indices of
// the records that it has lost. Without a segment these are all.
func wantSameOrCorrupt(t *testing.T, b []byte, l []api.Record) []int {
	t.Helper()
	var lost []int
	s, err := sealed.Open(b)
	if err != api.OK {
		if s != nil || err != api.ErrCorrupt {
			t.Fatalf("Open: error %d and a segment (%v)", err, s != nil)
		}
		for at := range l {
			lost = append(lost, at)
		}
		return lost
	}
	wantDirectory(t, s, l)
	for at, want := range l {
		r, err := s.Get(at)
		if err != api.OK {
			wantNoGet(t, s, at, api.ErrCorrupt)
			lost = append(lost, at)
		} else if r != want {
			t.Fatalf("Get %d: %.60v, not %.60v", at, r, want)
		}
	}
	all, err := s.All()
	if len(lost) == 0 {
		wantAll(t, s, l)
	} else if all != nil || err != api.ErrCorrupt {
		t.Fatalf("All, and %d can't be read: %d records, error %d", lost, len(all), err)
	}
	return lost
}

func TestP16_1EachChangedByte(t *testing.T) {
	for _, l := range [][]api.Record{nil, forty()[:1], forty()[:12], {put(1, "k", noise(1, 200)), del(2, "k"), put(3, "j", "")}} {
		b := built(t, l)
		for at := range b {
			for _, x := range []byte{1, 33, 128, 255, byte(at) | 2} {
				changed := bytes.Clone(b)
				changed[at] ^= x
				wantSameOrCorrupt(t, changed, l)
			}
		}
	}
}

// Of a segment of noise no byte can change without a loss, and a byte of one block costs only the records of that block.
func TestP16_1OnlyNeededBlocks(t *testing.T) {
	const size, count = 300, 10
	var l []api.Record
	for k := range count {
		l = append(l, put(int64(k+1), "key"+noise(k, 5), noise(100+k, size)), del(1, noise(k, 3)), put(2, noise(k, 2), ""))
	}
	b := built(t, l)
	wantSameOrCorrupt(t, b, l)
	whole := 0 // changes that leave no segment
	costs := make([]int, len(l))
	for at := 0; at < len(b); at += 7 {
		changed := bytes.Clone(b)
		changed[at] ^= byte(1 + at%255)
		lost := wantSameOrCorrupt(t, changed, l)
		switch {
		case len(lost) == len(l):
			whole += 7
		case len(lost) != 4 || lost[len(lost)-1]-lost[0] != 3*(len(lost)-1):
			t.Fatalf("byte %d of %d changed, and %d can't be read", at, len(b), lost)
		}
		for _, k := range lost {
			costs[k]++
		}
	}
	if whole > len(b)-count*size+7 {
		t.Errorf("%d of %d bytes leave no segment when they change", whole, len(b))
	}
	for k, r := range l {
		if (costs[k] > whole/7) != (r.Value != "") {
			t.Errorf("record %d, of %d bytes, was lost %d times, and all of them %d times", k, len(r.Value), costs[k], whole/7)
		}
	}
}

// The last record stands in the last block, as long as it has a value.
func TestP16_1ChangedEnd(t *testing.T) {
	l := []api.Record{put(1, "a", noise(1, 1500)), put(2, "b", noise(2, 2000)), put(3, "c", noise(3, 300)), put(4, "d", "")}
	b := built(t, l)
	b[len(b)-1] ^= 4
	if lost := wantSameOrCorrupt(t, b, l); !slices.Equal(lost, []int{1, 2}) {
		t.Errorf("the records %d can't be read, not those from byte 3000 of all values on", lost)
	}
}

func TestP16_1ChangedSectors(t *testing.T) {
	r := rand.New(rand.NewSource(1))
	l := append(edges(), forty()...)
	b := built(t, l)
	for range 300 {
		changed := bytes.Clone(b)
		for range 1 + r.Intn(4) {
			at := r.Intn(len(b)/64+1) * 64
			if sector := changed[at:min(at+64, len(b))]; r.Intn(2) == 0 {
				r.Read(sector)
			} else {
				clear(sector)
			}
		}
		wantSameOrCorrupt(t, changed, l)
	}
}

func TestP16_1OtherLength(t *testing.T) {
	for _, l := range [][]api.Record{nil, forty(), {del(1, "k")}, {put(1, "k", noise(1, 1000))}} {
		b := built(t, l)
		for n := range b {
			wantNoOpen(t, "cut", b[:n])
			wantNoOpen(t, "cut at its beginning", b[len(b)-n:])
		}
		for _, more := range [][]byte{{0}, {255}, make([]byte, 64), b, []byte(noise(1, 1000))} {
			wantNoOpen(t, "longer", slices.Concat(b, more))
			wantNoOpen(t, "longer at its beginning", slices.Concat(more, b))
		}
		wantSeg(t, opened(t, b), l)
	}
}

func TestP16_1OtherBytes(t *testing.T) {
	r := rand.New(rand.NewSource(2))
	for range 2000 {
		b := make([]byte, r.Intn(1+r.Intn(200)))
		r.Read(b)
		wantNoOpen(t, "any bytes", b)
		wantNoOpen(t, "any bytes in a seal", crc.Seal(b))
		wantNoOpen(t, "any bytes in a container", container.Pack(b))
		wantNoOpen(t, "any bytes in a directory", append(crc.Seal(b), container.Pack(nil)...))
	}
	log, _ := record.Encode(put(1, "k", "v"))
	wantNoOpen(t, "a record", log)
	wantNoOpen(t, "no bytes", nil)
	for n := range 100 {
		wantNoOpen(t, "zeros", make([]byte, n))
		wantNoOpen(t, "ones", bytes.Repeat([]byte{255}, n))
	}
}
