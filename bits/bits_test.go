package bits_test

import (
	"bytes"
	"math"
	"math/rand"
	"testing"

	"folio/bits"
)

// item is a number and how many of its bits are written.
type item struct {
	v uint64
	n int
}

// example is the chapter's.
func example() []item {
	return []item{{5, 3}, {0xffff, 0}, {0x1f5, 7}, {1<<63 | 9, 64}}
}

func exampleBytes() []byte {
	return []byte("\xbd\x60\x00\x00\x00\x00\x00\x00\x02\x40")
}

func writer(t *testing.T, l []item) *bits.Writer {
	t.Helper()
	w := &bits.Writer{}
	for _, x := range l {
		if !w.Put(x.v, x.n) {
			t.Fatalf("Put(%x, %d): false", x.v, x.n)
		}
	}
	return w
}

// plain is what Bytes should tell of l, worked out bit by bit.
func plain(l []item) ([]byte, int) {
	var out []byte
	at := 0
	for _, x := range l {
		for k := x.n - 1; k >= 0; k-- {
			if at%8 == 0 {
				out = append(out, 0)
			}
			out[at/8] |= byte(x.v>>k&1) << (7 - at%8)
			at++
		}
	}
	return out, at
}

// low is the lowest n bits of v.
func low(v uint64, n int) uint64 {
	if n == 64 {
		return v
	}
	return v & (1<<n - 1)
}

func mixed(seed int64, count int) []item {
	r := rand.New(rand.NewSource(seed))
	l := make([]item, count)
	for k := range l {
		l[k] = item{r.Uint64(), r.Intn(65)}
	}
	return l
}

func wrongCounts() []int {
	return []int{-1, 65, 66, 128, -64, 1 << 32, -1 << 32, math.MaxInt, math.MinInt}
}

func wantWritten(t *testing.T, what string, w *bits.Writer, l []item) {
	t.Helper()
	want, n := plain(l)
	if got := w.Bytes(); !bytes.Equal(got, want) || w.Len() != n {
		t.Errorf("%s: %d bits %x, not %d bits %x", what, w.Len(), got, n, want)
	}
}

func TestP1_1ZeroWriterIsEmpty(t *testing.T) {
	var w bits.Writer
	if w.Len() != 0 || len(w.Bytes()) != 0 {
		t.Errorf("%d bits, %x", w.Len(), w.Bytes())
	}
	if !w.Put(math.MaxUint64, 0) || w.Len() != 0 || len(w.Bytes()) != 0 {
		t.Errorf("after no bits: %d bits, %x", w.Len(), w.Bytes())
	}
}

func TestP1_1Example(t *testing.T) {
	w := writer(t, example())
	if !bytes.Equal(w.Bytes(), exampleBytes()) || w.Len() != 74 {
		t.Errorf("%d bits, %x", w.Len(), w.Bytes())
	}
}

func TestP1_1EachWidthAtEachPlace(t *testing.T) {
	for lead := range 9 {
		for n := range 65 {
			for _, v := range []uint64{0, 1, math.MaxUint64, 1 << 63, 0xa5c3_96e1_0ff0_3c5a} {
				l := []item{{0, lead}, {v, n}, {1, 1}}
				wantWritten(t, "Bytes", writer(t, l), l)
			}
		}
	}
}

func TestP1_1WrongWidthAppendsNothing(t *testing.T) {
	w := writer(t, []item{{5, 3}})
	for _, n := range wrongCounts() {
		if w.Put(math.MaxUint64, n) {
			t.Errorf("Put of %d bits: true", n)
		}
		wantWritten(t, "after a wrong Put", w, []item{{5, 3}})
	}
	w.Put(1, 1)
	wantWritten(t, "after a further Put", w, []item{{5, 3}, {1, 1}})
}

func TestP1_1NilWriter(t *testing.T) {
	var w *bits.Writer
	for _, n := range append(wrongCounts(), 0, 1, 64) {
		if w.Put(1, n) {
			t.Errorf("Put of %d bits: true", n)
		}
	}
	if w.Len() != 0 || len(w.Bytes()) != 0 {
		t.Errorf("%d bits, %x", w.Len(), w.Bytes())
	}
}

func TestP1_1ManyBits(t *testing.T) {
	for seed := range int64(20) {
		l := mixed(seed, 600)
		wantWritten(t, "Bytes", writer(t, l), l)
	}
}

func TestP1_1EachLengthBitByBit(t *testing.T) {
	w := &bits.Writer{}
	l := []item{}
	for k := range 4400 {
		x := item{uint64(k*k + k/3), 1}
		w.Put(x.v, x.n)
		l = append(l, x)
		wantWritten(t, "Bytes", w, l)
	}
}

// Bytes is a copy: P1.1 and P0.3.
func TestP1_1BytesIsACopy(t *testing.T) {
	for _, count := range []int{1, 4, 300} {
		l := mixed(7, count)
		w := writer(t, l)
		first, second := w.Bytes(), w.Bytes()
		spoil(first)
		if want, _ := plain(l); !bytes.Equal(second, want) {
			t.Error("two answers share memory")
		}
		wantWritten(t, "after a spoilt answer", w, l)
		w.Put(math.MaxUint64, 64)
		if want, _ := plain(l); !bytes.Equal(second, want) {
			t.Error("a later Put changed an earlier answer")
		}
		wantWritten(t, "after a further Put", w, append(l, item{math.MaxUint64, 64}))
	}
}

// spoil turns each byte of b, and of its spare capacity.
func spoil(b []byte) {
	b = b[:cap(b)]
	for k := range b {
		b[k] ^= 0xff
	}
}

// A Writer that is copied as a value is an object of its own: P0.5.
func TestP1_1CopiedWriterGoesOnAlone(t *testing.T) {
	for _, count := range []int{0, 1, 5, 90} {
		l := mixed(int64(count), count)
		w := writer(t, l)
		other := *w
		for range 70 {
			w.Put(math.MaxUint64, 61)
		}
		wantWritten(t, "the copy", &other, l)
		ones, fives := append([]item{}, l...), append([]item{}, l...)
		for range 70 {
			other.Put(5, 61)
			ones, fives = append(ones, item{math.MaxUint64, 61}), append(fives, item{5, 61})
		}
		wantWritten(t, "the copy, filled", &other, fives)
		wantWritten(t, "the first one", w, ones)
	}
}

func wantGet(t *testing.T, r *bits.Reader, n int, v uint64, ok bool, left int) {
	t.Helper()
	if got, good := r.Get(n); got != v || good != ok || r.Left() != left {
		t.Errorf("Get(%d): %x, %v, %d left; not %x, %v, %d left", n, got, good, r.Left(), v, ok, left)
	}
}

func TestP1_2Example(t *testing.T) {
	r := bits.Read(exampleBytes())
	if r.Left() != 80 {
		t.Errorf("%d left", r.Left())
	}
	wantGet(t, r, 3, 5, true, 77)
	wantGet(t, r, 65, 0, false, 77)
	wantGet(t, r, 7, 0x75, true, 70)
	wantGet(t, r, 64, 1<<63|9, true, 6)
	wantGet(t, r, 7, 0, false, 6)
	wantGet(t, r, 6, 0, true, 0)
	wantGet(t, r, 1, 0, false, 0)
	wantGet(t, r, 0, 0, true, 0)
}

func TestP1_2EachWidthAtEachPlace(t *testing.T) {
	b := []byte("\xff\x81\xa5\x3c\x96\xe1\x0f\xf0\x5a\xc3\x7e")
	for lead := range 9 {
		for n := range 65 {
			r := bits.Read(b)
			r.Get(lead)
			want := uint64(0)
			for k := lead; k < lead+n; k++ {
				want = want<<1 | uint64(b[k/8]>>(7-k%8)&1)
			}
			wantGet(t, r, n, want, true, 8*len(b)-lead-n)
		}
	}
}

func TestP1_2TooFewBitsLeft(t *testing.T) {
	for size := range 10 {
		for n := 0; n <= 64; n++ {
			b := bytes.Repeat([]byte{0xff}, size)
			r := bits.Read(b)
			if n <= 8*size {
				wantGet(t, r, n, low(math.MaxUint64, n), true, 8*size-n)
			} else {
				wantGet(t, r, n, 0, false, 8*size)
			}
		}
	}
}

func TestP1_2WrongWidthDoesNotAdvance(t *testing.T) {
	r := bits.Read(bytes.Repeat([]byte{0xb3}, 100))
	wantGet(t, r, 2, 2, true, 798)
	for _, n := range wrongCounts() {
		wantGet(t, r, n, 0, false, 798)
	}
	wantGet(t, r, 6, 0x33, true, 792)
}

func TestP1_2NoBytes(t *testing.T) {
	for _, b := range [][]byte{nil, {}} {
		r := bits.Read(b)
		if r == nil || r.Left() != 0 {
			t.Fatalf("Read of no bytes: %v", r)
		}
		wantGet(t, r, 0, 0, true, 0)
		wantGet(t, r, 1, 0, false, 0)
		wantGet(t, r, -1, 0, false, 0)
	}
}

func TestP1_2NilReader(t *testing.T) {
	var r *bits.Reader
	for _, n := range append(wrongCounts(), 0, 1, 64) {
		wantGet(t, r, n, 0, false, 0)
	}
}

// A Reader reads a copy, and leaves the list alone: P1.2 and P0.3.
func TestP1_2ReadsACopy(t *testing.T) {
	whole := []byte("\x12\x34\x56\x78")
	b := whole[:2]
	r := bits.Read(b)
	wantGet(t, r, 4, 1, true, 12)
	b[0], b[1] = 0xff, 0xff
	wantGet(t, r, 12, 0x234, true, 0)
	wantGet(t, r, 8, 0, false, 0)
	if string(whole) != "\xff\xff\x56\x78" {
		t.Errorf("the list was changed: %x", whole)
	}
}

// Readers of one list do not move each other: P0.5.
func TestP1_2ReadersAreApart(t *testing.T) {
	b := []byte{0xab, 0xcd}
	one, two := bits.Read(b), bits.Read(b)
	wantGet(t, one, 12, 0xabc, true, 4)
	third := *one
	wantGet(t, two, 8, 0xab, true, 8)
	wantGet(t, one, 4, 0xd, true, 0)
	wantGet(t, &third, 4, 0xd, true, 0)
	wantGet(t, two, 8, 0xcd, true, 0)
}

func TestP1_2ReadsWhatWasWritten(t *testing.T) {
	for seed := range int64(20) {
		l := mixed(seed, 600)
		w := writer(t, l)
		r := bits.Read(w.Bytes())
		left := 8 * len(w.Bytes())
		for _, x := range l {
			left -= x.n
			wantGet(t, r, x.n, low(x.v, x.n), true, left)
		}
		wantGet(t, r, left, 0, true, 0)
	}
}
