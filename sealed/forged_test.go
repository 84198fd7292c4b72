package sealed

import (
	"bytes"
	"math"
	"slices"
	"strings"
	"testing"

	"folio/api"
	"folio/container"
	"folio/crc"
	"folio/number"
)

// forgedRow is what a row consists of, so that a test can write one that Build never writes.
type forgedRow struct {
	kind, seq uint64
	key       string
	size      uint64
}

func (f forgedRow) bytes() []byte {
	return slices.Concat(number.Put(f.kind), number.Put(f.seq), number.Text(f.key), number.Put(f.size))
}

// forged gives a segment with checksums that match.
func forged(rows, values []byte) []byte {
	return append(crc.Seal(container.Pack(rows)), container.Pack(values)...)
}

// rows gives right ones, of which the values have ten bytes.
func rows() []forgedRow {
	return []forgedRow{{1, 3, "a", 4}, {0, 300, "b", 0}, {1, 1 << 50, strings.Repeat("k", 100), 0}, {1, 1, "a", 6}}
}

func joined(l []forgedRow) []byte {
	var b []byte
	for _, f := range l {
		b = append(b, f.bytes()...)
	}
	return b
}

func ten() []byte {
	return []byte("0123456789")
}

func wantNoSeg(t *testing.T, what string, b []byte) {
	t.Helper()
	if s, err := Open(b); s != nil || err != api.ErrCorrupt {
		t.Errorf("%s: error %d and a segment (%v), not ErrCorrupt and none", what, err, s != nil)
	}
}

// The parts are written here as Build writes them: else the faults below would be others than those that they speak of.
func TestP16_1ForgedAsBuilt(t *testing.T) {
	l := []api.Record{
		{Kind: 1, Seq: 3, Key: "a", Value: "0123"}, {Seq: 300, Key: "b"},
		{Kind: 1, Seq: 1 << 50, Key: strings.Repeat("k", 100)}, {Kind: 1, Seq: 1, Key: "a", Value: "456789"},
	}
	b, err := Build(l)
	if err != api.OK || !bytes.Equal(b, forged(joined(rows()), ten())) {
		t.Errorf("other parts, or error %d", err)
	}
	b, err = Build(nil)
	if err != api.OK || !bytes.Equal(b, forged(nil, nil)) {
		t.Errorf("other parts of no records, or error %d", err)
	}
}

func TestP16_1ForgedRows(t *testing.T) {
	for k := range rows() {
		for _, change := range []func(f *forgedRow){
			func(f *forgedRow) { f.kind = 2 },
			func(f *forgedRow) { f.kind |= 1 << 8 },
			func(f *forgedRow) { f.kind |= 1 << 32 },
			func(f *forgedRow) { f.kind |= 1 << 63 },
			func(f *forgedRow) { f.kind = math.MaxUint64 },
			func(f *forgedRow) { f.seq = 0 },
			func(f *forgedRow) { f.seq = 1<<50 + 1 },
			func(f *forgedRow) { f.seq |= 1 << 63 },
			func(f *forgedRow) { f.seq = math.MaxUint64 },
			func(f *forgedRow) { f.key = "" },
			func(f *forgedRow) { f.key = strings.Repeat("k", 101) },
			func(f *forgedRow) { f.size++ },
			func(f *forgedRow) { f.size-- },
			func(f *forgedRow) { f.size = 4000 },
			func(f *forgedRow) { f.size |= 1 << 63 },
			func(f *forgedRow) { f.size = math.MaxInt64 },
			func(f *forgedRow) { f.size = math.MaxUint64 },
		} {
			l := rows()
			change(&l[k])
			wantNoSeg(t, "a changed row", forged(joined(l), ten()))
		}
	}
	large := []forgedRow{{1, 1, "a", 4001}}
	wantNoSeg(t, "a value that is too large", forged(joined(large), make([]byte, 4001)))
	dead := []forgedRow{{0, 1, "a", 3}}
	wantNoSeg(t, "a deletion with a value", forged(joined(dead), make([]byte, 3)))
}

// Sizes that make the right sum, if only it overflows.
func TestP16_1ForgedSum(t *testing.T) {
	for _, sizes := range [][]uint64{{1 << 63, 1 << 63, 10}, {math.MaxUint64, 11}, {1<<64 - 5, 5, 10}, {11, math.MaxUint64}} {
		var l []forgedRow
		for _, size := range sizes {
			l = append(l, forgedRow{1, 1, "a", size})
		}
		wantNoSeg(t, "sizes beyond all memory", forged(joined(l), ten()))
	}
}

func TestP16_1ForgedDirectory(t *testing.T) {
	right := joined(rows())
	for n := range right {
		wantNoSeg(t, "rows that are cut", forged(right[:n], ten()))
		wantNoSeg(t, "a byte more in the rows", forged(slices.Concat(right[:n], []byte{0}, right[n:]), ten()))
	}
	wantNoSeg(t, "a byte behind the rows", forged(append(joined(rows()), 1), ten()))
	for _, last := range []string{"\x81\x00\x01\x01a\x06", "\x01\x81\x00\x01a\x06", "\x01\x01\x81\x00a\x06", "\x01\x01\x01a\x86\x00"} {
		wantNoSeg(t, "a number that could be shorter", forged(append(joined(rows()[:3]), last...), ten()))
	}
	wantNoSeg(t, "a row without a size", forged(append(joined(rows()), 1, 1, 1, 'a'), ten()))
	wantNoSeg(t, "rows as they are", append(crc.Seal(right), container.Pack(ten())...))
	wantNoSeg(t, "rows in two containers", append(crc.Seal(container.Pack(container.Pack(right))), container.Pack(ten())...))
	wantNoSeg(t, "rows in two seals", append(crc.Seal(crc.Seal(container.Pack(right))), container.Pack(ten())...))
	wantNoSeg(t, "rows in no seal", append(container.Pack(right), container.Pack(ten())...))
	packed := container.Pack(right)
	packed[len(packed)-1]++
	wantNoSeg(t, "rows in a changed container", append(crc.Seal(packed), container.Pack(ten())...))
	wantNoSeg(t, "rows and a byte behind their container", append(crc.Seal(append(container.Pack(right), 0)), container.Pack(ten())...))
}

func TestP16_1ForgedValues(t *testing.T) {
	head := crc.Seal(container.Pack(joined(rows())))
	wantNoSeg(t, "no values", head)
	wantNoSeg(t, "values as they are", append(bytes.Clone(head), ten()...))
	wantNoSeg(t, "values in a seal", append(bytes.Clone(head), crc.Seal(ten())...))
	for n := range 3000 {
		if b := append(bytes.Clone(head), container.Pack(make([]byte, n))...); n != 10 && (n < 30 || n%97 == 0) {
			wantNoSeg(t, "another size of values", b)
		}
	}
	wantNoSeg(t, "values of no records", forged(nil, ten()))
	wantNoSeg(t, "records without values", forged(joined([]forgedRow{{1, 1, "a", 0}}), ten()))
}

// Behind a right head of the values a block that is none shows up only where it is needed.
func TestP16_1ForgedBlock(t *testing.T) {
	b := forged(joined(rows()), ten())
	b[len(b)-1]++
	s, err := Open(b)
	if err != api.OK {
		t.Fatalf("Open: error %d", err)
	}
	for at, want := range []api.Errno{api.ErrCorrupt, api.OK, api.OK, api.ErrCorrupt} {
		r, err := s.Get(at)
		if err != want || err != api.OK && r != (api.Record{}) || err == api.OK && r.Key != rows()[at].key {
			t.Errorf("Get %d: %.60v, %d; not error %d", at, r, err, want)
		}
	}
	if all, err := s.All(); all != nil || err != api.ErrCorrupt {
		t.Errorf("All: %d records, error %d", len(all), err)
	}
	if at, ok := s.Find("a"); at != 3 || !ok {
		t.Errorf("Find: %d, %v", at, ok)
	}
}
