package codes_test

import (
	"math"
	"math/rand"
	"slices"
	"strings"
	"testing"

	"folio/api"
	"folio/bits"
	"folio/codes"
	"folio/lengths"
)

// plainCodes has the code of each symbol as a text of 0 and 1, empty for none, and false where Of should answer ErrForm.
func plainCodes(lens []int) ([]string, bool) {
	if len(lens) > 300 {
		return nil, false
	}
	taken := 0.0
	var order []int
	for symbol, n := range lens {
		switch {
		case n < 0 || n > 15:
			return nil, false
		case n > 0:
			taken += math.Pow(0.5, float64(n))
			order = append(order, symbol)
		}
	}
	if taken > 1 {
		return nil, false
	}
	slices.SortStableFunc(order, func(a, b int) int { return lens[a] - lens[b] })
	all := make([]string, len(lens))
	code := ""
	for k, symbol := range order {
		if k > 0 {
			code = plainNext(code)
		}
		code += strings.Repeat("0", lens[symbol]-len(code))
		all[symbol] = code
	}
	return all, true
}

// plainNext adds 1 to a code that is not all ones.
func plainNext(code string) string {
	zero := strings.LastIndexByte(code, '0')
	return code[:zero] + "1" + strings.Repeat("0", len(code)-zero-1)
}

// plainRead is what Read should answer for a text of bits, with the number of bits that it reads if there is no error.
func plainRead(text string, lens []int, end, most int) ([]int, api.Errno, int) {
	all, ok := plainCodes(lens)
	if !ok {
		return nil, api.ErrForm, 0
	}
	var l []int
	size := 0
	for {
		if len(l) >= most {
			return nil, api.ErrTooLarge, 0
		}
		symbol := slices.IndexFunc(all, func(code string) bool { return code != "" && strings.HasPrefix(text[size:], code) })
		if symbol < 0 {
			return nil, api.ErrCorrupt, 0
		}
		l = append(l, symbol)
		size += len(all[symbol])
		if symbol == end {
			return l, api.OK, size
		}
	}
}

// textOf is the bits as a text of 0 and 1.
func textOf(r *bits.Reader) string {
	var text strings.Builder
	for r.Left() > 0 {
		bit, _ := r.Get(1)
		text.WriteByte('0' + byte(bit))
	}
	return text.String()
}

// written is what was appended to w.
func written(w *bits.Writer) string {
	return textOf(bits.Read(w.Bytes()))[:w.Len()]
}

// writerOf holds the bits of a text.
func writerOf(text string) *bits.Writer {
	w := &bits.Writer{}
	for _, bit := range text {
		w.Put(uint64(bit-'0'), 1)
	}
	return w
}

// anyBits is a text of n bits, of one of them more than of the other.
func anyBits(r *rand.Rand, n int) string {
	ones := r.Float64()
	text := make([]byte, n)
	for k := range text {
		text[k] = '0'
		if r.Float64() < ones {
			text[k] = '1'
		}
	}
	return string(text)
}

// anyLens has lengths of a kind that is chosen anew for each list: a full code, one with room left, and any numbers.
func anyLens(r *rand.Rand, most int) []int {
	kind, wide := r.Intn(4), 1+r.Intn(15)
	freqs := make([]int64, r.Intn(most+1))
	for k := range freqs {
		freqs[k] = r.Int63n(1+1<<(2*wide)) * r.Int63n(2)
	}
	lens, _ := lengths.Of(freqs)
	for k := range lens {
		switch {
		case kind == 1 && lens[k] > 0:
			lens[k] = min(15, lens[k]+r.Intn(3))
		case kind == 2 && r.Intn(3) == 0:
			lens[k] = 0
		case kind == 3 && r.Intn(1+len(lens)/3) == 0:
			lens[k] = r.Intn(18) - 1
		}
	}
	return lens
}

// codedLens are lengths with at least one symbol that has a code, and these symbols.
func codedLens(r *rand.Rand, most int) (lens, coded []int) {
	for len(coded) == 0 {
		lens = anyLens(r, most)
		if _, ok := plainCodes(lens); !ok {
			continue
		}
		for symbol, n := range lens {
			if n > 0 {
				coded = append(coded, symbol)
			}
		}
	}
	return lens, coded
}

// wantOf holds Of against the plain codes.
func wantOf(t *testing.T, lens []int) {
	t.Helper()
	got, err := codes.Of(lens)
	all, ok := plainCodes(lens)
	if !ok {
		if got != nil || err != api.ErrForm {
			t.Fatalf("Of(%v): %v, %d, not ErrForm", lens, got, err)
		}
		return
	}
	if len(got) != len(lens) || err != api.OK {
		t.Fatalf("Of(%v): %v, %d", lens, got, err)
	}
	for symbol, code := range all {
		want := codes.Code{Len: len(code)}
		for _, bit := range code {
			want.Bits = 2*want.Bits + uint32(bit-'0')
		}
		if got[symbol] != want {
			t.Fatalf("Of(%v): symbol %d: %v, not %v", lens, symbol, got[symbol], want)
		}
	}
}

// wantRead holds Read against the plain one, and then looks where the Reader stands.
func wantRead(t *testing.T, text string, lens []int, end, most int) {
	t.Helper()
	r := bits.Read(writerOf(text).Bytes())
	text = textOf(bits.Read(writerOf(text).Bytes()))
	want, errno, size := plainRead(text, lens, end, most)
	got, err := codes.Read(r, lens, end, most)
	if !slices.Equal(got, want) || err != errno {
		t.Fatalf("Read(%s, %v, %d, %d): %v, %d, not %v, %d", text, lens, end, most, got, err, want, errno)
	}
	if err != api.OK && got != nil {
		t.Fatalf("Read(%s, %v, %d, %d): a list of no symbols beside %d", text, lens, end, most, err)
	}
	if err == api.OK && textOf(r) != text[size:] {
		t.Fatalf("Read(%s, %v, %d, %d): not %d bits were read", text, lens, end, most, size)
	}
}

var example = []int{2, 0, 1, 3, 3}

// notLengths are the numbers that are the length of no code, with such as look like one in fewer bits.
var notLengths = []int{math.MinInt, math.MinInt + 1, math.MinInt32, -1<<32 + 1, -256, -16, -15, -2, -1, 16, 17, 31, 32, 63, 64, 65, 255, 256, 257, 1 << 16, math.MaxInt32, 1 << 32, 1<<32 + 1, math.MaxInt - 1, math.MaxInt}

// ladder is the full code with one symbol of each length and, at the end, one more of the greatest.
func ladder() []int {
	return []int{1, 2, 3, 4, 5, 6, 7, 8, 9, 10, 11, 12, 13, 14, 15, 15}
}

// widest is a full code of 300 symbols: 212 of them with 8 bits, and 88 with 9.
func widest() []int {
	return append(slices.Repeat([]int{8}, 212), slices.Repeat([]int{9}, 88)...)
}

func TestP7_1OfExamples(t *testing.T) {
	for _, x := range []struct {
		lens []int
		want []codes.Code
	}{
		{example, []codes.Code{{2, 2}, {0, 0}, {0, 1}, {6, 3}, {7, 3}}},
		{[]int{1}, []codes.Code{{0, 1}}},
		{[]int{1, 1}, []codes.Code{{0, 1}, {1, 1}}},
		{[]int{15}, []codes.Code{{0, 15}}},
		{[]int{15, 15}, []codes.Code{{0, 15}, {1, 15}}},
		{[]int{15, 3}, []codes.Code{{1 << 12, 15}, {0, 3}}},
		{[]int{3, 1, 15}, []codes.Code{{4, 3}, {0, 1}, {5 << 12, 15}}},
		{[]int{0}, []codes.Code{{}}},
		{[]int{0, 0, 0}, []codes.Code{{}, {}, {}}},
		{[]int{0, 2, 0, 2, 0}, []codes.Code{{}, {0, 2}, {}, {1, 2}, {}}},
		{[]int{3, 2, 3, 2, 2}, []codes.Code{{6, 3}, {0, 2}, {7, 3}, {1, 2}, {2, 2}}},
	} {
		if got, err := codes.Of(x.lens); !slices.Equal(got, x.want) || err != api.OK {
			t.Errorf("Of(%v): %v, %d, not %v", x.lens, got, err, x.want)
		}
		wantOf(t, x.lens)
	}
	if got, err := codes.Of([]int{1, 1, 1}); got != nil || err != api.ErrForm {
		t.Errorf("Of(1, 1, 1): %v, %d", got, err)
	}
}

func TestP7_1OfNoLengths(t *testing.T) {
	for _, lens := range [][]int{nil, {}, make([]int, 0, 9), []int{1, 1, 1, -1}[:0]} {
		if got, err := codes.Of(lens); len(got) != 0 || err != api.OK {
			t.Errorf("Of: %v, %d", got, err)
		}
	}
}

func TestP7_1OfEachShortList(t *testing.T) {
	lists := [][]int{nil}
	for k := 0; len(lists) < 30_000; k++ {
		for n := range 6 {
			lists = append(lists, append(slices.Clone(lists[k]), n))
		}
	}
	for _, lens := range lists {
		wantOf(t, lens)
	}
	for a := -1; a <= 16; a++ {
		for b := -1; b <= 16; b++ {
			for c := -1; c <= 16; c++ {
				wantOf(t, []int{a, b, c})
			}
		}
	}
}

func TestP7_1OfAnyLengths(t *testing.T) {
	r := rand.New(rand.NewSource(1))
	good, bad := 0, 0
	for range 4_000 {
		lens := anyLens(r, 300)
		if _, ok := plainCodes(lens); ok {
			good++
		} else {
			bad++
		}
		wantOf(t, lens)
	}
	if good < 500 || bad < 500 {
		t.Errorf("%d lists that are a code, %d that are none", good, bad)
	}
}

func TestP7_1OfLengthsOutOfRange(t *testing.T) {
	for _, n := range notLengths {
		wantOf(t, []int{n})
		wantOf(t, []int{n, n})
		wantOf(t, []int{n, -n})
		for _, size := range []int{2, 5, 300} {
			for k := range size {
				for _, others := range []int{0, 1, 15} {
					lens := slices.Repeat([]int{others}, size)
					lens[k] = n
					if got, err := codes.Of(lens); got != nil || err != api.ErrForm {
						t.Errorf("Of with %d at %d of %d: %v, %d", n, k, size, got, err)
					}
				}
			}
		}
	}
	for n := 0; n <= 15; n++ {
		if _, err := codes.Of([]int{n}); err != api.OK {
			t.Errorf("Of(%d): %d", n, err)
		}
	}
}

// A full code is one, and not with one code more, be it ever so long.
func TestP7_1OfMoreCodesThanPossible(t *testing.T) {
	full := [][]int{{1, 1}, example, ladder(), append(slices.Repeat([]int{8}, 226), slices.Repeat([]int{9}, 60)...)}
	for n := 1; n <= 8; n++ {
		full = append(full, slices.Repeat([]int{n}, 1<<n))
	}
	for _, lens := range full {
		if lengths.Kraft(lens) != 1<<15 {
			t.Fatalf("%v: Kraft is %d", lens, lengths.Kraft(lens))
		}
		wantOf(t, lens)
		for n := 1; n <= 15; n++ {
			for _, k := range []int{0, len(lens) / 2, len(lens)} {
				more := slices.Insert(slices.Clone(lens), k, n)
				if got, err := codes.Of(more); got != nil || err != api.ErrForm {
					t.Errorf("Of(%v): %v, %d", more, got, err)
				}
			}
		}
		wantOf(t, append(slices.Clone(lens), 0))
	}
	for n := range 16 {
		for _, size := range []int{1, 2, 3, 4, 5, 8, 9, 16, 17, 128, 129, 256, 257, 300} {
			wantOf(t, slices.Repeat([]int{n}, size))
		}
	}
}

func TestP7_1OfNumberOfLengths(t *testing.T) {
	for n := range 301 {
		wantOf(t, make([]int, n))
		wantOf(t, slices.Repeat([]int{15}, n))
	}
	wantOf(t, widest())
	wantOf(t, make([]int, 300, 400))
	for _, n := range []int{301, 302, 600, 1 << 15, 1<<16 + 1} {
		for _, of := range []int{0, 1, 15, 16, -1} {
			if got, err := codes.Of(slices.Repeat([]int{of}, n)); got != nil || err != api.ErrForm {
				t.Errorf("Of %d lengths: %d codes, %d", n, len(got), err)
			}
		}
	}
	if got, err := codes.Of(append(ladder(), make([]int, 285)...)); got != nil || err != api.ErrForm {
		t.Errorf("Of 301 lengths, most of them 0: %d codes, %d", len(got), err)
	}
}

func TestP7_1WriteExamples(t *testing.T) {
	w := &bits.Writer{}
	if err := codes.Write(w, example, []int{4, 2, 0, 3, 2, 2}); err != api.OK || w.Len() != 11 || string(w.Bytes()) != "\xeb\x00" {
		t.Errorf("Write: %d, %d bits: %x", err, w.Len(), w.Bytes())
	}
	if err := codes.Write(w, example, []int{2, 0, 1}); err != api.ErrRange || w.Len() != 11 || string(w.Bytes()) != "\xeb\x00" {
		t.Errorf("Write of 2, 0, 1: %d, %d bits: %x", err, w.Len(), w.Bytes())
	}
	if err := codes.Write(w, example, []int{3, 2}); err != api.OK || written(w) != "11101011000"+"1100" {
		t.Errorf("Write behind eleven bits: %d, %s", err, written(w))
	}
}

func TestP7_1WriteNothing(t *testing.T) {
	for _, before := range []string{"", "1", "0110100", "11111111", "010101010"} {
		for _, lens := range [][]int{nil, {}, {0}, {1}, example, ladder(), widest()} {
			for _, l := range [][]int{nil, {}, []int{1, 2}[:0]} {
				w := writerOf(before)
				if err := codes.Write(w, lens, l); err != api.OK || written(w) != before {
					t.Errorf("Write(%v) of nothing behind %q: %d, %q", lens, before, err, written(w))
				}
			}
		}
	}
}

func TestP7_1WriteEachSymbol(t *testing.T) {
	for _, lens := range [][]int{{1}, {0, 7}, {15}, example, {15, 0, 3, 15}, ladder(), widest()} {
		all, _ := plainCodes(lens)
		for symbol, code := range all {
			w := writerOf("101")
			want, wrote := api.OK, "101"+code
			if code == "" {
				want = api.ErrRange
			}
			if err := codes.Write(w, lens, []int{symbol}); err != want || written(w) != wrote {
				t.Errorf("Write(%v) of %d: %d, %s, not %d, %s", lens, symbol, err, written(w), want, wrote)
			}
		}
	}
}

func TestP7_1WriteAnySymbols(t *testing.T) {
	r := rand.New(rand.NewSource(2))
	for range 500 {
		lens, coded := codedLens(r, 300)
		all, _ := plainCodes(lens)
		want := anyBits(r, r.Intn(70))
		w := writerOf(want)
		for range 1 + r.Intn(3) {
			l := make([]int, r.Intn(300))
			for k := range l {
				l[k] = coded[r.Intn(len(coded))]
				want += all[l[k]]
			}
			if err := codes.Write(w, lens, l); err != api.OK {
				t.Fatalf("Write(%v) of %v: %d", lens, l, err)
			}
		}
		if got := written(w); got != want {
			t.Fatalf("Write(%v): %s, not %s", lens, got, want)
		}
	}
}

// A symbol without a code, wherever it stands, leaves the Writer as it was.
func TestP7_1WriteSymbolsWithoutCode(t *testing.T) {
	lens := []int{2, 0, 1, 3, 3, 0}
	for _, symbol := range []int{math.MinInt, math.MinInt + 1, -1 << 32, -300, -6, -5, -2, -1, 1, 5, 6, 7, 256, 257, 258, 300, 1 << 32, 1<<32 + 2, math.MaxInt - 1, math.MaxInt} {
		for size := range 20 {
			for k := range size + 1 {
				for _, before := range []string{"", "1", "11001100", strings.Repeat("10", 2000)} {
					w := writerOf(before)
					l := slices.Insert(slices.Repeat([]int{4}, size), k, symbol)
					if err := codes.Write(w, lens, l); err != api.ErrRange || written(w) != before {
						t.Fatalf("Write of %v behind %d bits: %d, %d bits", l, len(before), err, w.Len())
					}
				}
			}
		}
	}
	for _, lens := range [][]int{nil, {}, {0}, {0, 0, 0}} {
		for symbol := -1; symbol < 4; symbol++ {
			w := writerOf("110")
			if err := codes.Write(w, lens, []int{symbol}); err != api.ErrRange || written(w) != "110" {
				t.Errorf("Write(%v) of %d: %d, %s", lens, symbol, err, written(w))
			}
		}
	}
}

// What is wrong with the lengths counts ahead of what is wrong with the symbols.
func TestP7_1WriteLengthsThatAreNoCode(t *testing.T) {
	for _, lens := range [][]int{{1, 1, 1}, {-1}, {16}, {1, 16}, make([]int, 301), append(ladder(), 15), slices.Repeat([]int{1}, 300)} {
		for _, l := range [][]int{nil, {}, {0}, {0, 1}, {-1}, {400}, {0, math.MaxInt}} {
			w := writerOf("0111")
			if err := codes.Write(w, lens, l); err != api.ErrForm || written(w) != "0111" {
				t.Errorf("Write(%v) of %v: %d, %s", lens, l, err, written(w))
			}
		}
	}
}

// There is nothing to append to, and no error that is named for it; what is wrong with the lists is told all the same.
func TestP7_1WriteToNil(t *testing.T) {
	for _, x := range []struct {
		lens, l []int
		want    api.Errno
	}{
		{example, []int{4, 2}, api.OK},
		{example, nil, api.OK},
		{nil, nil, api.OK},
		{example, []int{4, 1}, api.ErrRange},
		{[]int{1, 1, 1}, []int{4, 1}, api.ErrForm},
	} {
		if err := codes.Write(nil, x.lens, x.l); err != x.want {
			t.Errorf("Write(nil, %v, %v): %d, not %d", x.lens, x.l, err, x.want)
		}
	}
}

func TestP7_2ReadExamples(t *testing.T) {
	for _, x := range []struct {
		end, most int
		want      []int
		err       api.Errno
		left      int
	}{
		{3, 4, []int{4, 2, 0, 3}, api.OK, 7},
		{3, 3, nil, api.ErrTooLarge, 0},
		{4, 1, []int{4}, api.OK, 13},
		{1, 99, nil, api.ErrCorrupt, 0},
		{2, 2, []int{4, 2}, api.OK, 12},
		{2, 99, []int{4, 2}, api.OK, 12},
		{2, 1, nil, api.ErrTooLarge, 0},
		{0, math.MaxInt, []int{4, 2, 0}, api.OK, 10},
	} {
		r := bits.Read([]byte{0xeb, 0})
		got, err := codes.Read(r, example, x.end, x.most)
		if !slices.Equal(got, x.want) || err != x.err || err != api.OK && got != nil {
			t.Errorf("Read(%d, %d): %v, %d, not %v, %d", x.end, x.most, got, err, x.want, x.err)
		}
		if err == api.OK && r.Left() != x.left {
			t.Errorf("Read(%d, %d): %d bits are left, not %d", x.end, x.most, r.Left(), x.left)
		}
	}
}

func TestP7_2ReadLengthsThatAreNoCode(t *testing.T) {
	bad := [][]int{{1, 1, 1}, make([]int, 301), append(ladder(), 15), slices.Repeat([]int{1}, 300)}
	for _, n := range notLengths {
		bad = append(bad, []int{n}, []int{1, n})
	}
	for _, lens := range bad {
		for _, b := range [][]byte{nil, {}, {0}, {255, 255, 255}} {
			for _, end := range []int{-1, 0, 1, 400} {
				for _, most := range []int{math.MinInt, -1, 0, 1, 99} {
					if got, err := codes.Read(bits.Read(b), lens, end, most); got != nil || err != api.ErrForm {
						t.Errorf("Read(%x, %v, %d, %d): %v, %d", b, lens, end, most, got, err)
					}
				}
			}
		}
	}
}

// Nothing is read for a most below 1, whatever the bits are.
func TestP7_2ReadAtMostNone(t *testing.T) {
	for _, most := range []int{math.MinInt, math.MinInt + 1, -1 << 32, -2, -1, 0} {
		for _, b := range [][]byte{nil, {}, {0}, {0xeb, 0}, {255, 255, 255}} {
			for _, lens := range [][]int{nil, {0}, {1}, example, ladder()} {
				for end := -1; end < 6; end++ {
					r := bits.Read(b)
					if got, err := codes.Read(r, lens, end, most); got != nil || err != api.ErrTooLarge || r.Left() != 8*len(b) {
						t.Errorf("Read(%x, %v, %d, %d): %v, %d, %d bits are left", b, lens, end, most, got, err, r.Left())
					}
				}
			}
		}
	}
}

// Where the symbols that were read are enough, it does not count that there are no bits for another.
func TestP7_2ReadTooLargeAheadOfCorrupt(t *testing.T) {
	for size := range 40 {
		text := strings.Repeat("0", 8*size)
		for most := range 8*size + 3 {
			want := api.ErrTooLarge
			if most > 8*size {
				want = api.ErrCorrupt
			}
			for _, lens := range [][]int{{1}, {1, 5}, {1, 1}, ladder()} {
				if got, err := codes.Read(bits.Read(make([]byte, size)), lens, 1, most); got != nil || err != want {
					t.Fatalf("Read of %d zeros, %v, %d: %v, %d, not %d", 8*size, lens, most, got, err, want)
				}
			}
		}
		wantRead(t, text, []int{1}, 0, 1)
	}
}

func TestP7_2ReadNoCode(t *testing.T) {
	ones := []byte{255, 255, 255}
	for _, lens := range [][]int{nil, {}, {0}, {0, 0, 0}, make([]int, 300), {1}, {0, 1}, {2, 2, 2}, {15}, {1, 2, 15}, ladder()[:15]} {
		for end := -1; end < 16; end++ {
			for _, most := range []int{1, 2, 99, math.MaxInt} {
				if got, err := codes.Read(bits.Read(ones), lens, end, most); got != nil || err != api.ErrCorrupt {
					t.Errorf("Read(%v, %d, %d): %v, %d", lens, end, most, got, err)
				}
			}
		}
	}
	// The symbols ahead of the fault are not told.
	wantRead(t, "00000111", []int{1}, 9, 99)
	wantRead(t, "01010111", []int{2, 2, 2}, 0, 99)
	wantRead(t, "0000000000000001"+"1111111111111111", []int{15, 15}, 9, 99)
}

// A code is one only when its last bit is there.
func TestP7_2ReadBitsRunOut(t *testing.T) {
	for _, lens := range [][]int{{15}, {0, 15}, {15, 15}, {9, 15}, ladder(), widest()} {
		all, _ := plainCodes(lens)
		for symbol, code := range all {
			if code == "" {
				continue
			}
			for there := range len(code) + 1 {
				ahead := 16 - there
				r := bits.Read(writerOf(strings.Repeat("1", ahead) + code).Bytes()[:2])
				r.Get(ahead)
				var want []int
				errno := api.ErrCorrupt
				if there == len(code) {
					want, errno = []int{symbol}, api.OK
				}
				if got, err := codes.Read(r, lens, symbol, 1); !slices.Equal(got, want) || err != errno {
					t.Fatalf("Read(%v) of %d bits of %s: %v, %d, not %d", lens, there, code, got, err, errno)
				}
			}
		}
	}
}

func TestP7_2ReadEachByte(t *testing.T) {
	lists := [][]int{nil, {0}, {1}, {1, 1}, {2, 2, 2}, {1, 0, 3, 3}, {3, 2, 3, 2, 2}, {8}, {9}, example, ladder(), {0, 0, 4, 4, 15, 2}}
	for _, lens := range lists {
		for b := range 256 {
			text := textOf(bits.Read([]byte{byte(b)}))
			for end := -1; end <= len(lens); end++ {
				for most := -1; most <= 10; most++ {
					wantRead(t, text, lens, end, most)
				}
			}
		}
	}
}

func TestP7_2ReadAnyBits(t *testing.T) {
	r := rand.New(rand.NewSource(3))
	errs := map[api.Errno]int{}
	for range 6_000 {
		lens := anyLens(r, []int{3, 9, 40, 300}[r.Intn(4)])
		text := anyBits(r, 8*r.Intn(60))
		end := r.Intn(len(lens)+2) - 1
		most := r.Intn(60) - 1
		wantRead(t, text, lens, end, most)
		_, err, _ := plainRead(text, lens, end, most)
		errs[err]++
	}
	for _, err := range []api.Errno{api.OK, api.ErrForm, api.ErrTooLarge, api.ErrCorrupt} {
		if errs[err] < 200 {
			t.Errorf("only %d lists for %d", errs[err], err)
		}
	}
}

// What was written is read, list by list, each from where the one ahead of it ended.
func TestP7_2ReadWhatWasWritten(t *testing.T) {
	r := rand.New(rand.NewSource(4))
	for range 300 {
		lens, coded := codedLens(r, 300)
		end := coded[r.Intn(len(coded))]
		lists := make([][]int, 1+r.Intn(4))
		w := writerOf(anyBits(r, r.Intn(64)))
		ahead := w.Len()
		for k := range lists {
			for range r.Intn(300) {
				if symbol := coded[r.Intn(len(coded))]; symbol != end {
					lists[k] = append(lists[k], symbol)
				}
			}
			lists[k] = append(lists[k], end)
			if err := codes.Write(w, lens, lists[k]); err != api.OK {
				t.Fatalf("Write(%v) of %v: %d", lens, lists[k], err)
			}
		}
		reader := bits.Read(w.Bytes())
		reader.Get(ahead)
		for _, want := range lists {
			if got, err := codes.Read(reader, lens, end, len(want)+r.Intn(2)); !slices.Equal(got, want) || err != api.OK {
				t.Fatalf("Read(%v, %d): %v, %d, not %v", lens, end, got, err, want)
			}
		}
		if want := 8*len(w.Bytes()) - w.Len(); reader.Left() != want {
			t.Fatalf("%d bits are left, not %d", reader.Left(), want)
		}
	}
}

func TestP7_2ReadMostIsReached(t *testing.T) {
	lens := widest()
	for _, size := range []int{1, 2, 3, 100, 1000, 5000} {
		l := append(slices.Repeat([]int{7, 290}, size)[:size-1], 299)
		w := &bits.Writer{}
		codes.Write(w, lens, l)
		for _, most := range []int{size, size + 1, 2 * size, 1 << 31, 1 << 40, math.MaxInt - 1, math.MaxInt} {
			if got, err := codes.Read(bits.Read(w.Bytes()), lens, 299, most); !slices.Equal(got, l) || err != api.OK {
				t.Errorf("Read of %d symbols, %d at most: %d symbols, %d", size, most, len(got), err)
			}
		}
		if got, err := codes.Read(bits.Read(w.Bytes()), lens, 299, size-1); got != nil || err != api.ErrTooLarge {
			t.Errorf("Read of %d symbols, one fewer at most: %d symbols, %d", size, len(got), err)
		}
	}
}

// A symbol that no code has is no end, so the bits or most come to theirs.
func TestP7_2ReadEndWithoutCode(t *testing.T) {
	for _, end := range []int{math.MinInt, -300, -1, 1, 5, 6, 300, 1 << 32, 1<<32 + 2, math.MaxInt} {
		if got, err := codes.Read(bits.Read([]byte{0xeb, 0}), example, end, math.MaxInt); got != nil || err != api.ErrCorrupt {
			t.Errorf("Read with end %d: %v, %d", end, got, err)
		}
		for most := 1; most <= 9; most++ {
			if got, err := codes.Read(bits.Read([]byte{0xeb, 0}), example, end, most); got != nil || err != api.ErrTooLarge {
				t.Errorf("Read with end %d, %d at most: %v, %d", end, most, got, err)
			}
		}
	}
}

func TestP7_2ReadNoBits(t *testing.T) {
	for _, r := range []*bits.Reader{nil, {}, bits.Read(nil), bits.Read([]byte{})} {
		for _, x := range []struct {
			lens []int
			most int
			want api.Errno
		}{
			{example, 1, api.ErrCorrupt},
			{example, math.MaxInt, api.ErrCorrupt},
			{nil, 1, api.ErrCorrupt},
			{[]int{0, 0}, 1, api.ErrCorrupt},
			{example, 0, api.ErrTooLarge},
			{nil, 0, api.ErrTooLarge},
			{[]int{1, 1, 1}, 0, api.ErrForm},
			{[]int{1, 1, 1}, 1, api.ErrForm},
		} {
			if got, err := codes.Read(r, x.lens, 0, x.most); got != nil || err != x.want {
				t.Errorf("Read(%v, 0, %d): %v, %d, not %d", x.lens, x.most, got, err, x.want)
			}
		}
	}
}

// The same lists are answered alike, whatever was asked before: P0.5.
func TestP7_2CallsAreApart(t *testing.T) {
	r := rand.New(rand.NewSource(5))
	for range 200 {
		lens, coded := codedLens(r, 300)
		l := []int{coded[0], coded[len(coded)-1]}
		first, second := &bits.Writer{}, &bits.Writer{}
		codes.Write(first, lens, l)
		wantOf(t, anyLens(r, 300))
		codes.Write(&bits.Writer{}, []int{1, 1, 1}, l)
		codes.Read(bits.Read([]byte{9, 9}), anyLens(r, 300), 0, 9)
		codes.Write(second, slices.Clone(lens), slices.Clone(l))
		if written(first) != written(second) {
			t.Fatalf("Write(%v) of %v: %s, and then %s", lens, l, written(first), written(second))
		}
		wantOf(t, lens)
	}
}

// The answers are new memory, and the lists are left alone with what lies behind them: P0.3.
func TestP7_2SharesNothing(t *testing.T) {
	behind := []int{2, 0, 1, 3, 3, 9, 77, -78}
	for size := 3; size < 6; size++ {
		whole := slices.Clone(behind)
		lens := whole[:size]
		want, _ := codes.Of(slices.Clone(lens))
		first, _ := codes.Of(lens)
		second, _ := codes.Of(lens)
		first = first[:cap(first)]
		for k := range first {
			first[k] = codes.Code{Bits: 7, Len: 7}
		}
		if third, _ := codes.Of(lens); !slices.Equal(second, want) || !slices.Equal(third, want) {
			t.Errorf("%d lengths: two answers share memory", size)
		}
		symbols := slices.Clone(behind)
		w := &bits.Writer{}
		codes.Write(w, lens, symbols[:2])
		b := append(w.Bytes(), 5, 6)
		read := b[:1]
		l, _ := codes.Read(bits.Read(read), lens, 0, 9)
		other, _ := codes.Read(bits.Read(read), lens, 0, 9)
		l = l[:cap(l)]
		for k := range l {
			l[k] = -7
		}
		if !slices.Equal(other, []int{2, 0}) {
			t.Errorf("%d lengths: two answers of Read share memory: %v", size, other)
		}
		if !slices.Equal(whole, behind) || !slices.Equal(symbols, behind) || b[1] != 5 || b[2] != 6 {
			t.Errorf("%d lengths: a list was changed: %v, %v, %v", size, whole, symbols, b)
		}
		for k := range whole {
			whole[k], symbols[k] = 5, 5
		}
		if !slices.Equal(second, want) || written(w) != "010" {
			t.Errorf("%d lengths: an answer follows its list", size)
		}
	}
}
