package container

import (
	"bytes"
	"math"
	"slices"
	"testing"

	"folio/api"
	"folio/crc"
	"folio/entropy"
	"folio/number"
)

// forgery is what a container consists of, so that a test can write one that Pack never writes, with checksums that
// match.
type forgery struct {
	size   uint32
	rows   [][2]uint32 // stored bytes, and their checksum
	stored [][]byte
}

// forged gives that of Pack(b).
func forged(b []byte) forgery {
	f := forgery{size: uint32(len(b))}
	for text := range slices.Chunk(b, 1000) {
		code := entropy.Encode(text)
		if len(code) >= len(text) {
			code = text
		}
		f = f.with(code)
	}
	return f
}

// with appends a block.
func (f forgery) with(stored []byte) forgery {
	f.rows = append(slices.Clone(f.rows), [2]uint32{uint32(len(stored)), crc.Sum(stored)})
	f.stored = append(slices.Clone(f.stored), stored)
	return f
}

// but has other stored bytes for block k.
func (f forgery) but(k int, stored []byte) forgery {
	f.rows, f.stored = slices.Clone(f.rows), slices.Clone(f.stored)
	f.rows[k] = [2]uint32{uint32(len(stored)), crc.Sum(stored)}
	f.stored[k] = stored
	return f
}

func (f forgery) head() []byte {
	head := number.Four(f.size)
	for _, row := range f.rows {
		head = slices.Concat(head, number.Four(row[0]), number.Four(row[1]))
	}
	return head
}

func (f forgery) bytes() []byte {
	return append(crc.Seal(f.head()), bytes.Join(f.stored, nil)...)
}

// wantNone asks each function for the answer to a forged container, of which nothing is right up to block k.
func wantNone(t *testing.T, what string, c []byte, from, n int) {
	t.Helper()
	if b, err := Unpack(c, math.MaxInt); b != nil || err != api.ErrCorrupt {
		t.Errorf("%s: Unpack %d bytes, %d", what, len(b), err)
	}
	if l, err := Blocks(c); l != nil || err != api.ErrCorrupt {
		t.Errorf("%s: Blocks %v, %d", what, l, err)
	}
	if b, err := Part(c, from, n); b != nil || err != api.ErrCorrupt {
		t.Errorf("%s: Part %d bytes, %d", what, len(b), err)
	}
}

func short() []byte {
	return bytes.Repeat([]byte("the same again, "), 62)
}

// long is a block of n bytes that is stored as it is.
func long(n int) []byte {
	b := make([]byte, n)
	x := uint32(n) + 1
	for k := range b {
		x = x*1664525 + 1013904223
		b[k] = byte(x >> 24)
	}
	return b
}

// The parts are written here as Pack writes them: else the faults below would be others than those that they speak of.
func TestP11_1ForgedAsPacked(t *testing.T) {
	for _, b := range [][]byte{nil, {1}, short(), long(1000), long(1001), long(4500), slices.Concat(long(1000), short())} {
		if !bytes.Equal(forged(b).bytes(), Pack(b)) {
			t.Errorf("%d bytes: other parts", len(b))
		}
	}
}

func TestP11_1ForgedHead(t *testing.T) {
	for _, b := range [][]byte{nil, {1}, short(), long(1000), long(2100)} {
		right := forged(b)
		for _, size := range []uint32{0, 1, 999, 1000, 1001, 3000, 3001, 1 << 31, math.MaxUint32 - 998, math.MaxUint32} {
			f := right
			f.size = size
			if int(size) != len(b) {
				wantNone(t, "another size", f.bytes(), max(0, int(size)-1), min(1, int(size)))
			}
		}
		f := right
		f.rows = append(slices.Clone(right.rows), [2]uint32{})
		wantNone(t, "an empty row more", f.bytes(), 0, 0)
		wantNone(t, "a block more", right.with([]byte{1}).bytes(), 0, 0)
		wantNone(t, "a block of no bytes more", right.with(nil).bytes(), 0, 0)
		head := right.head()
		for n := range head {
			c := append(crc.Seal(head[:n]), bytes.Join(right.stored, nil)...)
			wantNone(t, "a head that is cut", c, 0, 0)
		}
		for _, more := range [][]byte{{0}, {0, 0, 0, 0}, make([]byte, 7), make([]byte, 800)} {
			c := append(crc.Seal(slices.Concat(head, more)), bytes.Join(right.stored, nil)...)
			wantNone(t, "a longer head", c, 0, 0)
		}
	}
}

func TestP11_1ForgedRows(t *testing.T) {
	right := forged(slices.Concat(long(1000), short()[:500], short()[:500], long(700)))
	for k := range right.rows {
		for _, n := range []uint32{0, 1, 700, 701, 1000, 1001, 1 << 20, 1 << 31, math.MaxUint32} {
			f := right
			f.rows = slices.Clone(right.rows)
			f.rows[k][0] = n
			if f.rows[k] != right.rows[k] {
				wantNone(t, "another count of stored bytes", f.bytes(), 0, 0)
			}
		}
		f := right
		f.rows = slices.Clone(right.rows)
		f.rows[k][1]++
		wantNone(t, "another checksum", f.bytes(), k*1000, 1)
	}
}

// The checksums match, but Pack would have stored other bytes.
func TestP11_1ForgedBlocks(t *testing.T) {
	text := short()[:400]
	right := forged(slices.Concat(long(1000), text))
	for _, x := range []struct {
		what   string
		stored []byte
	}{
		{"unchanged though its encoding is shorter", text},
		{"the encoding of one byte less", entropy.Encode(text[:399])},
		{"the encoding of one byte more", entropy.Encode(short()[:401])},
		{"the encoding of no bytes", entropy.Encode(nil)},
		{"no bytes", nil},
		{"another byte behind the encoding", append(entropy.Encode(text), 0)},
		{"no encoding", text[:200]},
		{"zeros", make([]byte, 300)},
	} {
		c := right.but(1, x.stored).bytes()
		wantNone(t, x.what, c, 1000, 1)
		if b, err := Part(c, 0, 1000); !bytes.Equal(b, long(1000)) || err != api.OK {
			t.Errorf("%s: the block ahead of it: %d bytes, %d", x.what, len(b), err)
		}
	}
	wantNone(t, "an encoding that is too long", right.but(0, entropy.Encode(long(1000))).bytes(), 0, 1)
	tiny := forged([]byte{5})
	wantNone(t, "one byte as an encoding", tiny.but(0, entropy.Encode([]byte{5})).bytes(), 0, 1)
}

// A list of many sizes, of which the sum would be beyond all memory, takes none.
func TestP11_1ForgedSizes(t *testing.T) {
	f := forgery{size: math.MaxUint32}
	for range 4000 {
		f = forgery{size: f.size, rows: append(f.rows, [2]uint32{1000, 7})}
	}
	wantNone(t, "a size without its rows", f.bytes(), 0, math.MaxUint32)
	f.size = 4_000_000
	wantNone(t, "rows without their blocks", f.bytes(), 0, 4_000_000)
}
