package number_test

import (
	"bytes"
	"encoding/binary"
	"math"
	"math/rand"
	"strings"
	"testing"

	"folio/number"
)

// edges are the numbers at which a varint grows by a byte, and their neighbours.
func edges() []uint64 {
	l := []uint64{0, 1, 2, 300, math.MaxUint32, math.MaxInt64, math.MaxUint64 - 1, math.MaxUint64}
	for k := 1; k < 64; k++ {
		l = append(l, 1<<k-1, 1<<k, 1<<k+1)
	}
	return l
}

func anyBytes(r *rand.Rand, most int) []byte {
	b := make([]byte, r.Intn(most+1))
	for k := range b {
		b[k] = byte(r.Intn(256))
		if r.Intn(4) > 0 {
			b[k] |= 0x80
		}
	}
	return b
}

// plainGet is what Get should answer: what the library reads, if the library would write just that.
func plainGet(b []byte) (uint64, int) {
	n, k := binary.Uvarint(b)
	if k <= 0 || !bytes.Equal(binary.AppendUvarint(nil, n), b[:k]) {
		return 0, 0
	}
	return n, k
}

// plainGetText is what GetText should answer.
func plainGetText(b []byte) (string, int) {
	n, k := plainGet(b)
	if k == 0 || n > uint64(len(b)-k) {
		return "", 0
	}
	return string(b[k : k+int(n)]), k + int(n)
}

func wantGet(t *testing.T, b []byte, n uint64, k int) {
	t.Helper()
	if got, size := number.Get(b); got != n || size != k {
		t.Errorf("Get(%x): %d, %d; not %d, %d", b, got, size, n, k)
	}
}

func wantGetText(t *testing.T, b []byte, s string, k int) {
	t.Helper()
	if got, size := number.GetText(b); got != s || size != k {
		t.Errorf("GetText(%x): %q, %d; not %q, %d", b, got, size, s, k)
	}
}

func TestP2_1PutExamples(t *testing.T) {
	for _, x := range []struct {
		n    uint64
		want string
	}{
		{0, "\x00"},
		{1, "\x01"},
		{127, "\x7f"},
		{128, "\x80\x01"},
		{300, "\xac\x02"},
		{1<<14 - 1, "\xff\x7f"},
		{1 << 14, "\x80\x80\x01"},
		{1<<63 - 1, "\xff\xff\xff\xff\xff\xff\xff\xff\x7f"},
		{1 << 63, "\x80\x80\x80\x80\x80\x80\x80\x80\x80\x01"},
		{math.MaxUint64, "\xff\xff\xff\xff\xff\xff\xff\xff\xff\x01"},
	} {
		if got := number.Put(x.n); string(got) != x.want {
			t.Errorf("Put(%d): %x, not %x", x.n, got, x.want)
		}
	}
}

func TestP2_1PutAndGetOfEdges(t *testing.T) {
	for _, n := range edges() {
		b := number.Put(n)
		if want := binary.AppendUvarint(nil, n); !bytes.Equal(b, want) {
			t.Errorf("Put(%d): %x, not %x", n, b, want)
		}
		wantGet(t, b, n, len(b))
		for _, next := range []string{"\x00", "\x7f", "\x80", "\xff\xff", "\x09\x08"} {
			wantGet(t, append(bytes.Clone(b), next...), n, len(b))
		}
	}
}

func TestP2_1GetExamples(t *testing.T) {
	wantGet(t, []byte("\xac\x02\x09"), 300, 2)
	wantGet(t, []byte("\x80"), 0, 0)
	wantGet(t, []byte("\x80\x00"), 0, 0)
	wantGet(t, []byte("\x00"), 0, 1)
	wantGet(t, []byte("\x00\x00"), 0, 1)
}

func TestP2_1GetOfAShortList(t *testing.T) {
	wantGet(t, nil, 0, 0)
	wantGet(t, []byte{}, 0, 0)
	for _, n := range edges() {
		b := number.Put(n)
		for k := range b {
			wantGet(t, bytes.Clone(b[:k]), 0, 0)
			wantGet(t, b[:k], 0, 0) // the rest lies in the spare capacity
		}
	}
}

func TestP2_1GetOfALongerVarint(t *testing.T) {
	for _, n := range edges() {
		b := number.Put(n)
		b[len(b)-1] |= 0x80
		for range 12 {
			wantGet(t, append(bytes.Clone(b), 0), 0, 0)
			wantGet(t, append(bytes.Clone(b), 0, 1), 0, 0)
			b = append(b, 0x80)
		}
	}
}

func TestP2_1GetOfTooGreatANumber(t *testing.T) {
	for _, low := range []byte{0x80, 0x81, 0xff} {
		nine := bytes.Repeat([]byte{low}, 9)
		wantGet(t, append(bytes.Clone(nine), 1), 1<<63|plainLow(low), 10)
		for last := 2; last < 256; last++ {
			wantGet(t, append(bytes.Clone(nine), byte(last)), 0, 0)
			wantGet(t, append(bytes.Clone(nine), byte(last), 1), 0, 0)
		}
		for size := 10; size < 80; size++ {
			for _, last := range []byte{0, 1, 2, 0x7f} {
				wantGet(t, append(bytes.Repeat([]byte{low}, size), last), 0, 0)
			}
		}
	}
}

// plainLow is the number whose nine lowest groups are each that of x.
func plainLow(x byte) uint64 {
	n := uint64(0)
	for range 9 {
		n = n<<7 | uint64(x&0x7f)
	}
	return n
}

func TestP2_1GetOfEachTwoBytes(t *testing.T) {
	for x := range 1 << 16 {
		b := []byte{byte(x), byte(x >> 8)}
		n, k := plainGet(b)
		wantGet(t, b, n, k)
	}
}

func TestP2_1GetOfAnyBytes(t *testing.T) {
	r := rand.New(rand.NewSource(2))
	for range 100_000 {
		b := anyBytes(r, 14)
		n, k := plainGet(b)
		wantGet(t, b, n, k)
	}
}

func TestP2_1TextExamples(t *testing.T) {
	for _, x := range []struct{ s, want string }{
		{"", "\x00"},
		{"abc", "\x03abc"},
		{"\x00", "\x01\x00"},
		{"\xff\xfe", "\x02\xff\xfe"},
		{"h\u00e9", "\x03h\xc3\xa9"},
		{strings.Repeat("x", 127), "\x7f" + strings.Repeat("x", 127)},
		{strings.Repeat("x", 128), "\x80\x01" + strings.Repeat("x", 128)},
		{strings.Repeat("x", 300), "\xac\x02" + strings.Repeat("x", 300)},
	} {
		b := number.Text(x.s)
		if string(b) != x.want {
			t.Errorf("Text(%q): %x, not %x", x.s, b, x.want)
		}
		wantGetText(t, b, x.s, len(x.want))
		wantGetText(t, append(b, 'd'), x.s, len(x.want))
	}
}

func TestP2_1GetTextExamples(t *testing.T) {
	wantGetText(t, []byte("\x03abcd"), "abc", 4)
	wantGetText(t, []byte("\x03ab"), "", 0)
	wantGetText(t, []byte("\x00"), "", 1)
	wantGetText(t, []byte("\x00a"), "", 1)
}

func TestP2_1GetTextWithoutALength(t *testing.T) {
	wantGetText(t, nil, "", 0)
	for _, s := range []string{
		"",
		"\x80",
		"\x80\x00",
		"\x83\x00abc",
		"\x83\x80\x00abc",
		"\xff\xff\xff\xff\xff\xff\xff\xff\xff\x02abc",
		"\x83\x80\x80\x80\x80\x80\x80\x80\x80\x80\x01abc",
	} {
		wantGetText(t, []byte(s), "", 0)
	}
}

func TestP2_1GetTextOfTooFewBytes(t *testing.T) {
	for _, size := range []int{1, 3, 127, 128, 300} {
		b := number.Text(strings.Repeat("x", size))
		for k := range b {
			wantGetText(t, b[:k:k], "", 0)
			wantGetText(t, b[:k], "", 0) // the rest lies in the spare capacity
		}
	}
}

func TestP2_1GetTextOfAHugeLength(t *testing.T) {
	for _, n := range edges() {
		for _, rest := range []string{"", "a", "abcdefghi"} {
			b := append(binary.AppendUvarint(nil, n), rest...)
			s, k := plainGetText(b)
			wantGetText(t, b, s, k)
		}
	}
}

func TestP2_1GetTextOfAnyBytes(t *testing.T) {
	r := rand.New(rand.NewSource(3))
	for range 20_000 {
		b := anyBytes(r, 300)
		if len(b) > 0 && r.Intn(2) == 0 {
			b[0] &= 0x7f
		}
		s, k := plainGetText(b)
		wantGetText(t, b, s, k)
	}
}

func TestP2_1Four(t *testing.T) {
	for _, x := range []struct {
		n    uint32
		want string
	}{
		{0, "\x00\x00\x00\x00"},
		{1, "\x01\x00\x00\x00"},
		{0xff00, "\x00\xff\x00\x00"},
		{0x01020304, "\x04\x03\x02\x01"},
		{1 << 31, "\x00\x00\x00\x80"},
		{0xfedcba98, "\x98\xba\xdc\xfe"},
		{math.MaxUint32, "\xff\xff\xff\xff"},
	} {
		b := number.Four(x.n)
		if string(b) != x.want || number.GetFour(b) != x.n {
			t.Errorf("%x: %x, read as %x", x.n, b, number.GetFour(b))
		}
		if got := number.GetFour(append(b, 9, 255)); got != x.n {
			t.Errorf("%x, with more behind it: %x", x.n, got)
		}
	}
}

func TestP2_1GetFourOfTooFewBytes(t *testing.T) {
	b := []byte{1, 2, 3, 4}
	for k := range b {
		if n := number.GetFour(b[:k]); n != 0 {
			t.Errorf("%d bytes, of capacity %d: %x", k, cap(b), n)
		}
		if n := number.GetFour(bytes.Clone(b[:k])); n != 0 {
			t.Errorf("%d bytes: %x", k, n)
		}
	}
	if n := number.GetFour(nil); n != 0 {
		t.Errorf("nil: %x", n)
	}
}

// The answers are new memory, and the lists are left alone: P0.3.
func TestP2_1SharesNothing(t *testing.T) {
	for _, made := range []func() []byte{
		func() []byte { return number.Put(5) },
		func() []byte { return number.Put(math.MaxUint64) },
		func() []byte { return number.Text("") },
		func() []byte { return number.Text("abc") },
		func() []byte { return number.Four(0x01020304) },
	} {
		first, second := made(), made()
		want := bytes.Clone(second)
		first = first[:cap(first)]
		for k := range first {
			first[k] ^= 0xff
		}
		if !bytes.Equal(second, want) || !bytes.Equal(made(), want) {
			t.Errorf("%x: two answers share memory", want)
		}
	}
	whole := []byte("\x03abcdef")
	b := whole[:4]
	s, _ := number.GetText(b)
	number.Get(b)
	number.GetFour(b)
	if string(whole) != "\x03abcdef" {
		t.Errorf("the list was changed: %x", whole)
	}
	copy(b, "\x03xyz")
	if s != "abc" {
		t.Errorf("the text follows its list: %q", s)
	}
}
