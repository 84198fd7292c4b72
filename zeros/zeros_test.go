package zeros_test

import (
	"bytes"
	"math"
	"math/rand"
	"slices"
	"testing"

	"folio/api"
	"folio/zeros"
)

// plainDigits is n in bijective base 2, the least significant digit first: counted up from nothing, by carrying.
func plainDigits(n int) []int {
	var digits []int
	for range n {
		k := 0
		for k < len(digits) && digits[k] == 2 {
			digits[k] = 1
			k++
		}
		if k == len(digits) {
			digits = append(digits, 0)
		}
		digits[k]++
	}
	return digits
}

// plainEncode is what Encode should answer.
func plainEncode(b []byte) []int {
	var l []int
	for len(b) > 0 {
		n := len(b) - len(bytes.TrimLeft(b, "\x00"))
		for _, digit := range plainDigits(n) {
			l = append(l, digit-1)
		}
		b = b[n:]
		if len(b) > 0 {
			l = append(l, int(b[0])+1)
			b = b[1:]
		}
	}
	return append(l, 257)
}

// plainDecode is what Decode should answer, where most is small: it lays down each zero by itself.
func plainDecode(l []int, most int) ([]byte, api.Errno) {
	var out []byte
	weight := 1
	for k, x := range l {
		if x < 0 || x > 257 {
			return nil, api.ErrCorrupt
		}
		if x == 257 {
			if k != len(l)-1 {
				return nil, api.ErrCorrupt
			}
			return out, api.OK
		}
		if x == 0 || x == 1 {
			for range weight * (x + 1) {
				out = append(out, 0)
			}
			weight *= 2
		} else {
			out = append(out, byte(x-1))
			weight = 1
		}
		if len(out) > most {
			return nil, api.ErrTooLarge
		}
	}
	return nil, api.ErrCorrupt
}

// anyBytes has runs of zeros of all sizes, and other bytes among them.
func anyBytes(r *rand.Rand, parts, run int) []byte {
	var b []byte
	for range r.Intn(parts + 1) {
		b = append(b, make([]byte, r.Intn(run+1))...)
		for range r.Intn(4) {
			b = append(b, byte(r.Intn(256)))
		}
	}
	return b
}

// anySymbols is a list without an error, with runs of at most digits digits.
func anySymbols(r *rand.Rand, parts, digits int) []int {
	var l []int
	for range r.Intn(parts + 1) {
		for range r.Intn(digits + 1) {
			l = append(l, r.Intn(2))
		}
		for range 1 + r.Intn(3) {
			l = append(l, 2+r.Intn(255))
		}
	}
	for range r.Intn(digits + 1) {
		l = append(l, r.Intn(2))
	}
	return append(l, 257)
}

func repeated(x, n int, more ...int) []int {
	return append(slices.Repeat([]int{x}, n), more...)
}

func wantEncode(t *testing.T, b []byte, want []int) {
	t.Helper()
	if got := zeros.Encode(b); !slices.Equal(got, want) {
		t.Errorf("Encode(%x): %v, not %v", b, got, want)
	}
}

func wantDecode(t *testing.T, l []int, most int, want []byte, wantErr api.Errno) {
	t.Helper()
	got, err := zeros.Decode(l, most)
	if !bytes.Equal(got, want) || err != wantErr {
		t.Errorf("Decode(%v, %d): %x, %d, not %x, %d", l, most, got, err, want, wantErr)
	}
	if err != api.OK && got != nil {
		t.Errorf("Decode(%v, %d): a list beside the error %d", l, most, err)
	}
}

// wantBoth asks both ways, and each most at which something changes.
func wantBoth(t *testing.T, b []byte, l []int) {
	t.Helper()
	wantEncode(t, b, l)
	wantDecode(t, l, len(b), b, api.OK)
	wantDecode(t, l, len(b)+1, b, api.OK)
	wantDecode(t, l, math.MaxInt, b, api.OK)
	if len(b) > 0 {
		wantDecode(t, l, len(b)-1, nil, api.ErrTooLarge)
		wantDecode(t, l, 0, nil, api.ErrTooLarge)
		wantDecode(t, l, -1, nil, api.ErrTooLarge)
	}
}

func TestP5_1Examples(t *testing.T) {
	for _, x := range []struct {
		b string
		l []int
	}{
		{"\x00\x00\x00\x00\x00", []int{0, 1, 257}},
		{"\x00\x00\x01\xff\x00\x07\x00\x00\x00\x00", []int{1, 2, 256, 0, 8, 1, 0, 257}},
		{"", []int{257}},
		{"\x00", []int{0, 257}},
		{"\x01", []int{2, 257}},
		{"\xff", []int{256, 257}},
		{"\x00\x01\x00", []int{0, 2, 0, 257}},
		{"\x00\x00\x01\x01\x00\x00", []int{1, 2, 2, 1, 257}},
		{"\x01\x00\x01", []int{2, 0, 2, 257}},
		{"\x00\x00\x00\x02\x00\x00\x00", []int{0, 0, 3, 0, 0, 257}},
	} {
		wantBoth(t, []byte(x.b), x.l)
	}
}

func TestP5_1DecodeExamples(t *testing.T) {
	wantDecode(t, []int{2, 257}, 0, nil, api.ErrTooLarge)
	wantDecode(t, []int{1, 1, 999}, 5, nil, api.ErrTooLarge)
	wantDecode(t, []int{1, 1, 999}, 6, nil, api.ErrCorrupt)
	wantDecode(t, []int{257, 257}, 9, nil, api.ErrCorrupt)
	wantDecode(t, []int{0, 2, 0, 257}, 3, []byte{0, 1, 0}, api.OK)
}

func TestP5_1NoBytes(t *testing.T) {
	for _, b := range [][]byte{nil, {}, []byte("abc")[:0]} {
		wantEncode(t, b, []int{257})
	}
	for _, most := range []int{math.MinInt, -1, 0, 1, math.MaxInt} {
		wantDecode(t, []int{257}, most, nil, api.OK)
		wantDecode(t, nil, most, nil, api.ErrCorrupt)
		wantDecode(t, []int{}, most, nil, api.ErrCorrupt)
	}
}

func TestP5_1EachByte(t *testing.T) {
	for c := 1; c < 256; c++ {
		b := byte(c)
		wantBoth(t, []byte{b}, []int{c + 1, 257})
		wantBoth(t, []byte{b, b}, []int{c + 1, c + 1, 257})
		wantBoth(t, []byte{0, b, 0, 0, b}, []int{0, c + 1, 1, c + 1, 257})
	}
}

func TestP5_1EachShortRun(t *testing.T) {
	for n := range 600 {
		b := make([]byte, n)
		l := plainEncode(b)
		wantBoth(t, b, l)
		wantBoth(t, append(b, 9), append(slices.Clone(l[:len(l)-1]), 10, 257))
		wantBoth(t, append([]byte{9}, b...), append([]int{10}, l...))
	}
}

// The runs with the first, the last and one more of their digits: all digits of a kind, and the steps from one number
// of digits to the next.
func TestP5_1LongRuns(t *testing.T) {
	for digits := 1; digits <= 22; digits++ {
		ones, twos := 1<<digits-1, 2<<digits-2
		for _, x := range []struct {
			n int
			l []int
		}{
			{ones, repeated(0, digits, 257)},
			{ones + 1, append([]int{1}, repeated(0, digits-1, 257)...)},
			{twos, repeated(1, digits, 257)},
			{twos + 1, repeated(0, digits+1, 257)},
		} {
			b := make([]byte, x.n)
			if !slices.Equal(zeros.Encode(b), x.l) {
				t.Errorf("Encode of %d zeros: %v, not %v", x.n, zeros.Encode(b), x.l)
			}
			if got, err := zeros.Decode(x.l, x.n); !bytes.Equal(got, b) || err != api.OK {
				t.Errorf("Decode of %d zeros: %d bytes, %d", x.n, len(got), err)
			}
			wantDecode(t, x.l, x.n-1, nil, api.ErrTooLarge)
		}
	}
}

func TestP5_1AnyBytes(t *testing.T) {
	r := rand.New(rand.NewSource(1))
	for range 2_000 {
		b := anyBytes(r, 12, 90)
		wantBoth(t, b, plainEncode(b))
	}
}

// Each list of symbols below 257, with the end behind it, is the encoding of some bytes, and of no others.
func TestP5_1AnySymbols(t *testing.T) {
	r := rand.New(rand.NewSource(2))
	for range 5_000 {
		l := anySymbols(r, 12, 10)
		b, err := zeros.Decode(l, math.MaxInt)
		if err != api.OK {
			t.Fatalf("Decode(%v): %d", l, err)
		}
		wantEncode(t, b, l)
	}
}

func TestP5_1EachShortListOfFewSymbols(t *testing.T) {
	values := []int{-1, 0, 1, 2, 256, 257, 258}
	lists := [][]int{nil}
	for first := 0; len(lists) < 20_000; {
		last := len(lists)
		for _, l := range lists[first:last] {
			for _, x := range values {
				lists = append(lists, append(slices.Clone(l), x))
			}
		}
		first = last
	}
	for _, l := range lists {
		for most := range 14 {
			want, err := plainDecode(l, most)
			wantDecode(t, l, most, want, err)
		}
	}
}

func TestP5_1SymbolsThatAreNone(t *testing.T) {
	for _, x := range []int{math.MinInt, math.MinInt + 1, -258, -257, -256, -2, -1, 258, 259, 512, 513, 1 << 32, 1<<32 + 2, math.MaxInt - 1, math.MaxInt} {
		for _, l := range [][]int{{x}, {x, 257}, {257, x}, {x, 257, 257}, {2, x, 257}, {0, x, 257}, {1, 1, x}} {
			wantDecode(t, l, 9, nil, api.ErrCorrupt)
			wantDecode(t, l, math.MaxInt, nil, api.ErrCorrupt)
		}
	}
}

func TestP5_1EndNotLast(t *testing.T) {
	for x := range 258 {
		for _, most := range []int{-1, 0, 1, 9} {
			wantDecode(t, []int{257, x}, most, nil, api.ErrCorrupt)
			wantDecode(t, []int{257, x, 257}, most, nil, api.ErrCorrupt)
		}
	}
}

func TestP5_1NoEnd(t *testing.T) {
	for x := range 257 {
		wantDecode(t, []int{x}, 2, nil, api.ErrCorrupt)
		wantDecode(t, []int{256, x}, 3, nil, api.ErrCorrupt)
		wantDecode(t, []int{x}, 0, nil, api.ErrTooLarge)
	}
}

// The first error counts: what lies behind it does not matter, whatever it is.
func TestP5_1FirstError(t *testing.T) {
	for _, behind := range []int{-1, 0, 1, 2, 256, 257, 258, math.MaxInt} {
		wantDecode(t, []int{5, 2, 2, behind}, 2, nil, api.ErrTooLarge)
		wantDecode(t, []int{5, 0, 1, behind}, 3, nil, api.ErrTooLarge)
		wantDecode(t, []int{0, 0, 1, behind}, 6, nil, api.ErrTooLarge)
		wantDecode(t, []int{5, 2, -1, behind}, 2, nil, api.ErrCorrupt)
		wantDecode(t, []int{5, 2, 258, behind}, 2, nil, api.ErrCorrupt)
		wantDecode(t, []int{5, 2, 257, behind}, 2, nil, api.ErrCorrupt)
		wantDecode(t, []int{0, 1, 258, behind}, 5, nil, api.ErrCorrupt)
	}
}

// A run is held against the limit at each of its digits, with the bytes ahead of it, and the next run begins anew.
func TestP5_1TooLargeAtEachDigit(t *testing.T) {
	l := []int{7, 1, 1, 8, 0, 1, 0, 9}
	sizes := []int{1, 3, 7, 8, 9, 13, 17, 18} // bytes with each symbol
	for k, size := range sizes {
		wantDecode(t, append(slices.Clone(l[:k+1]), 999), size-1, nil, api.ErrTooLarge)
		wantDecode(t, append(slices.Clone(l[:k+1]), 999), size, nil, api.ErrCorrupt)
	}
	wantDecode(t, append(l, 257), 18, []byte("\x06\x00\x00\x00\x00\x00\x00\x07\x00\x00\x00\x00\x00\x00\x00\x00\x00\x08")[:18], api.OK)
}

func TestP5_1NegativeMost(t *testing.T) {
	for _, most := range []int{math.MinInt, math.MinInt + 1, -1 << 32, -2, -1, 0} {
		for x := range 257 {
			wantDecode(t, []int{x, 257}, most, nil, api.ErrTooLarge)
		}
		wantDecode(t, []int{257}, most, nil, api.OK)
		wantDecode(t, []int{999}, most, nil, api.ErrCorrupt)
		wantDecode(t, nil, most, nil, api.ErrCorrupt)
	}
}

// Runs that no int and no memory holds: the errors are those of the list, and nothing panics (P0.1, P0.6).
func TestP5_1HugeRuns(t *testing.T) {
	for _, x := range []struct {
		l    []int
		most int
		want api.Errno
	}{
		{repeated(0, 63), math.MaxInt, api.ErrCorrupt},
		{repeated(0, 63), math.MaxInt - 1, api.ErrTooLarge},
		{repeated(0, 63, 999), math.MaxInt, api.ErrCorrupt},
		{repeated(0, 63, 0), math.MaxInt, api.ErrTooLarge},
		{repeated(0, 63, 1), math.MaxInt, api.ErrTooLarge},
		{repeated(0, 63, 2), math.MaxInt, api.ErrTooLarge},
		{repeated(0, 62, 1), math.MaxInt, api.ErrTooLarge},
		{repeated(0, 62, 2, 999), math.MaxInt, api.ErrCorrupt},
		{repeated(0, 62, 2, 0), math.MaxInt, api.ErrCorrupt},
		{repeated(1, 62), math.MaxInt, api.ErrCorrupt},
		{repeated(1, 62), math.MaxInt - 1, api.ErrCorrupt},
		{repeated(1, 62), math.MaxInt - 2, api.ErrTooLarge},
		{repeated(1, 62, 2), math.MaxInt, api.ErrCorrupt},
		{repeated(1, 62, 2, 2), math.MaxInt, api.ErrTooLarge},
		{repeated(1, 62, 0), math.MaxInt, api.ErrTooLarge},
		{repeated(1, 63), math.MaxInt, api.ErrTooLarge},
		{repeated(1, 62, 2, 0), math.MaxInt, api.ErrTooLarge},
		{append([]int{2}, repeated(0, 63)...), math.MaxInt, api.ErrTooLarge},
		{append([]int{2}, repeated(0, 62)...), math.MaxInt, api.ErrCorrupt},
		{repeated(0, 1000, 257), 1000, api.ErrTooLarge},
		{repeated(0, 1000, 257), math.MaxInt, api.ErrTooLarge},
		{repeated(1, 1000, 257), math.MaxInt, api.ErrTooLarge},
		{repeated(0, 1000, 999), 1000, api.ErrTooLarge},
		{repeated(0, 40, 999), 1 << 50, api.ErrCorrupt},
		// No fault of these lists, but of the machine, which has no such memory.
		{repeated(0, 63, 257), math.MaxInt, api.ErrTooLarge},
		{repeated(0, 60, 2, 257), math.MaxInt, api.ErrTooLarge},
	} {
		wantDecode(t, x.l, x.most, nil, x.want)
	}
}

func TestP5_1CallsAreApart(t *testing.T) {
	for range 3 {
		wantBoth(t, []byte{0, 0, 0, 0, 3}, []int{1, 0, 4, 257})
		wantDecode(t, []int{1, 0, 999}, 9, nil, api.ErrCorrupt)
		wantDecode(t, []int{1, 0, 257}, 3, nil, api.ErrTooLarge)
		wantBoth(t, []byte{0}, []int{0, 257})
	}
}

// The answers are new memory, and the lists are left alone with what lies behind them: P0.3.
func TestP5_1EncodeSharesNothing(t *testing.T) {
	for size := range 9 {
		whole := []byte("\x00\x00\x05\x00\xff\x00\x00\x00behind")
		b := whole[:size]
		want := plainEncode(b)
		first, second := zeros.Encode(b), zeros.Encode(b)
		first = first[:cap(first)]
		for k := range first {
			first[k] = -7
		}
		if !slices.Equal(second, want) || !slices.Equal(zeros.Encode(b), want) {
			t.Errorf("%d bytes: two answers share memory", size)
		}
		if string(whole) != "\x00\x00\x05\x00\xff\x00\x00\x00behind" {
			t.Errorf("%d bytes: the list was changed: %x", size, whole)
		}
	}
}

func TestP5_1DecodeSharesNothing(t *testing.T) {
	for size := range 6 {
		whole := []int{1, 2, 0, 0, 256, 257, 44, 44, 44}
		symbols := slices.Clone(whole)
		symbols[size] = 257
		l := symbols[:size+1]
		behind := slices.Clone(symbols)
		want, _ := plainDecode(l, 9)
		first, err := zeros.Decode(l, 9)
		if err != api.OK {
			t.Fatalf("Decode(%v): %d", l, err)
		}
		second, _ := zeros.Decode(l, 9)
		first = first[:cap(first)]
		for k := range first {
			first[k] ^= 0xff
		}
		if !bytes.Equal(second, want) {
			t.Errorf("%v: two answers share memory", l)
		}
		wantDecode(t, l, 9, want, api.OK)
		if !slices.Equal(symbols, behind) {
			t.Errorf("%v: the list was changed: %v", l, symbols)
		}
	}
}
