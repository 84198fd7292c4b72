package entropy

import (
	"bytes"
	"math"
	"runtime"
	"slices"
	"testing"

	"folio/api"
	"folio/bits"
	"folio/bwt"
	"folio/codes"
	"folio/lengths"
	"folio/mtf"
	"folio/zeros"
)

// parts is what an encoding consists of, so that a test can write one that Encode never writes.
type parts struct {
	at, size int   // the place, and the bits that it is written with
	table    []int // the list of lengths, as symbols
	lens     []int
	symbols  []int
}

// partsOf gives those of Encode(b).
func partsOf(b []byte) parts {
	l, at := bwt.Forward(b)
	size := 0
	for at>>size > 0 {
		size++
	}
	return partsWith(at, size, zeros.Encode(mtf.Encode(l)))
}

func partsWith(at, size int, symbols []int) parts {
	p := parts{at: at, size: size, symbols: symbols}
	return p.withLens(lensOf(freqsOf(symbols)))
}

func (p parts) withLens(lens []int) parts {
	p.lens = lens
	p.table = zeros.Encode(asBytes(lens))
	return p
}

func (p parts) written() *bits.Writer {
	w := &bits.Writer{}
	w.Put(uint64(p.size), 6)
	w.Put(uint64(p.at), p.size)
	codes.Write(w, lensOfLens(), p.table)
	codes.Write(w, p.lens, p.symbols)
	return w
}

func (p parts) bytes() []byte {
	return p.written().Bytes()
}

func wantErr(t *testing.T, what string, c []byte, most int, want api.Errno) {
	t.Helper()
	if b, err := Decode(c, most); b != nil || err != want {
		t.Errorf("%s: %d bytes, %d, not %d", what, len(b), err, want)
	}
}

func wantCorrupt(t *testing.T, what string, p parts) {
	t.Helper()
	wantErr(t, what, p.bytes(), 1000, api.ErrCorrupt)
}

func forgeable() []string {
	return []string{"banana", "mississippi", "a", "aaaaaaaa", "the same again, the same again", "\x00\xff\x00\x00\x07"}
}

// The parts are written here as Encode writes them: else the faults below would be others than those that they speak of.
func TestP10_1Parts(t *testing.T) {
	for _, text := range forgeable() {
		if c := partsOf([]byte(text)).bytes(); !bytes.Equal(c, Encode([]byte(text))) {
			t.Errorf("%q: other parts", text)
		}
	}
}

func TestP10_1ForgedPlace(t *testing.T) {
	for _, text := range forgeable() {
		right := partsOf([]byte(text))
		for size := right.size + 1; size < 64; size++ {
			p := right
			p.size = size
			wantCorrupt(t, "a place with zeros ahead", p)
			p.at = 1 << (size - 1)
			if p.at > len(text) {
				wantCorrupt(t, "a place behind all", p)
			}
		}
		wantCorrupt(t, "the place 0", partsWith(0, 0, right.symbols))
	}
	// No text has the transform "aab" with the place 1.
	wantCorrupt(t, "the place of no text", partsWith(1, 1, zeros.Encode(mtf.Encode([]byte("aab")))))
}

// The text is told by any code that has its symbols. Only by the one that Encode takes is it the encoding.
func TestP10_1ForgedLens(t *testing.T) {
	for _, text := range forgeable() {
		right := partsOf([]byte(text))
		long := slices.Clone(right.lens)
		other := slices.Clone(right.lens)
		for symbol, n := range right.lens {
			if n > 0 {
				long[symbol]++
			} else {
				other[symbol] = 15
			}
		}
		wantCorrupt(t, "a bit more in each code", right.withLens(long))
		nine := slices.Repeat([]int{9}, api.Symbols)
		wantCorrupt(t, "nine bits in each code", right.withLens(nine))
		wantCorrupt(t, "codes of 15 bits for all other symbols", right.withLens(other))
		wantCorrupt(t, "a length more", right.withLens(append(slices.Clone(right.lens), 3)))
		wantCorrupt(t, "no lengths at all", right.withLens(make([]int, api.Symbols)))
		wantCorrupt(t, "no list of lengths", right.withLens(nil))
		wantCorrupt(t, "too many short codes", right.withLens(slices.Repeat([]int{1}, api.Symbols)))
	}
}

// Two symbols that come equally often and have codes of two sizes: the other way round, the text is as short.
func TestP10_1ForgedEqualCost(t *testing.T) {
	met := 0
	for _, text := range forgeable() {
		right := partsOf([]byte(text))
		freqs := freqsOf(right.symbols)
		for one, n := range freqs {
			for two := range one {
				if n == 0 || freqs[two] != n || right.lens[one] == right.lens[two] {
					continue
				}
				met++
				lens := slices.Clone(right.lens)
				lens[one], lens[two] = lens[two], lens[one]
				wantCorrupt(t, "two lengths that changed places", right.withLens(lens))
			}
		}
	}
	if met == 0 {
		t.Error("no two symbols to change")
	}
}

func TestP10_1ForgedTable(t *testing.T) {
	for _, text := range forgeable() {
		right := partsOf([]byte(text))
		p := right
		p.table = right.table[:len(right.table)-1]
		if b, err := Decode(p.bytes(), 1000); b != nil || err == api.OK {
			t.Errorf("a list of lengths without an end: %q, %d", b, err)
		}
		p.table = append(slices.Repeat([]int{0}, 64), end)
		wantCorrupt(t, "a list of lengths with a run of 2^64 - 1", p)
		p.table = append(slices.Repeat([]int{2}, api.Symbols+1), end)
		wantCorrupt(t, "a list of 259 lengths", p)
		p.table = slices.Repeat([]int{2}, 2000)
		wantCorrupt(t, "a list of 2000 lengths", p)
	}
}

func TestP10_1ForgedSymbols(t *testing.T) {
	for _, text := range forgeable() {
		right := partsOf([]byte(text))
		p := right
		p.symbols = nil
		wantCorrupt(t, "no symbols", p)
		p = partsWith(right.at, right.size, right.symbols[:len(right.symbols)-1])
		wantCorrupt(t, "no end", p)
		p = partsWith(right.at, right.size, append(slices.Clone(right.symbols), end))
		wantCorrupt(t, "two ends", p)
		p = partsWith(right.at, right.size, append([]int{end}, right.symbols...))
		wantCorrupt(t, "an end ahead of all", p)
	}
}

// Behind the last code there are zeros up to the next byte, and nothing more.
func TestP10_1ForgedRest(t *testing.T) {
	met := 0
	for _, text := range forgeable() {
		w := partsOf([]byte(text)).written()
		for bit := range 8*len(w.Bytes()) - w.Len() {
			met++
			c := w.Bytes()
			c[len(c)-1] |= 1 << bit
			wantErr(t, "a bit behind the last code", c, 1000, api.ErrCorrupt)
		}
		wantErr(t, "a byte more", append(w.Bytes(), 0), 1000, api.ErrCorrupt)
	}
	if met == 0 {
		t.Error("no bits behind the last code")
	}
}

// Runs of which the digits tell more bytes than there could be, and the same for what a few digits tell under a small
// most: nothing of the size is asked for.
func TestP10_1ForgedRuns(t *testing.T) {
	for _, digit := range []int{0, 1} {
		for _, digits := range []int{30, 50, 62, 63, 64, 65, 1000} {
			c := partsWith(5, 3, append(slices.Repeat([]int{digit}, digits), end)).bytes()
			var before, behind runtime.MemStats
			runtime.ReadMemStats(&before)
			for _, most := range []int{0, 1, 29, 1 << 20, 1 << 29} {
				wantErr(t, "a long run", c, most, api.ErrTooLarge)
			}
			runtime.ReadMemStats(&behind)
			if n := behind.TotalAlloc - before.TotalAlloc; n > 1<<20 {
				t.Errorf("%d digits: %d bytes", digits, n)
			}
			if digits > 60 {
				wantErr(t, "a run beyond all memory", c, math.MaxInt, api.ErrTooLarge)
			}
		}
	}
}

// Frequencies that lengths.Of would not take, up to all the bytes that a program may be given.
func TestP10_1GreatFreqs(t *testing.T) {
	const all = 1<<31 - 1
	for _, x := range [][]int64{
		{all, 1},
		{mostFreq + 1, mostFreq - 1, 1},
		{mostFreq, mostFreq, 1},
		{1, mostFreq + 9, 7, 500, 0, 20},
		{all - 15, 1, 2, 4, 8},
	} {
		before := slices.Clone(x)
		lens := lensOf(x)
		if !slices.Equal(x, before) {
			t.Errorf("%v: changed", before)
		}
		// By halves, rounded up, they are all in range, and nothing is far from what it was.
		halves := make([]int64, len(x))
		for k, n := range x {
			halves[k] = (n + 1) / 2
		}
		want, err := lengths.Of(halves)
		if err != api.OK || lengths.Kraft(lens) != 1<<api.MaxBits {
			t.Fatalf("%v: %v, %d", x, lens, err)
		}
		if got, best := lengths.Cost(x, lens), lengths.Cost(x, want); got > best {
			t.Errorf("%v: %v costs %d, %v %d", x, lens, got, want, best)
		}
	}
}

// The code of the lengths is one by which each list of lengths can be written, with nothing left over.
func TestP10_1LensOfLens(t *testing.T) {
	if lengths.Kraft(lensOfLens()) != 1<<api.MaxBits {
		t.Error("something of the code is left over")
	}
	var every []int
	for n := range api.MaxBits + 1 {
		every = append(every, n, n)
	}
	w := &bits.Writer{}
	if err := codes.Write(w, lensOfLens(), zeros.Encode(asBytes(every))); err != api.OK {
		t.Fatal(err)
	}
	if lens, ok := readLens(bits.Read(w.Bytes())); !ok || !slices.Equal(lens, every) {
		t.Errorf("%v, %v", lens, ok)
	}
}
