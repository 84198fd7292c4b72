package entropy_test

import (
	"bytes"
	"math"
	"math/rand"
	"runtime"
	"slices"
	"testing"

	"folio/api"
	"folio/bwt"
	"folio/entropy"
	"folio/mtf"
)

// short is b, or where it is long what it begins with and how long it is.
func short(b []byte) (string, int) {
	return string(b[:min(len(b), 60)]), len(b)
}

// wantBoth asks for the encoding of b, for its size, and for the way back with each most at which something changes.
func wantBoth(t *testing.T, b []byte) []byte {
	t.Helper()
	c := entropy.Encode(b)
	text, size := short(b)
	if len(c) > len(b)*9/8+400 {
		t.Fatalf("Encode(%q, %d bytes): %d bytes", text, size, len(c))
	}
	if len(b) > 0 && bytes.Count(b, b[:1]) == len(b) && len(c) > 300 {
		t.Fatalf("Encode(%q, %d bytes, all the same): %d bytes", text, size, len(c))
	}
	for _, most := range []int{len(b), len(b) + 1, math.MaxInt - 1, math.MaxInt} {
		if got, err := entropy.Decode(c, most); !bytes.Equal(got, b) || err != api.OK {
			t.Fatalf("Decode of the encoding of %q, %d bytes, with most %d: %d bytes, %d", text, size, most, len(got), err)
		}
	}
	for _, most := range []int{len(b) - 1, len(b) / 2, 0, -1, math.MinInt} {
		if most < len(b) {
			wantTooLarge(t, c, most)
		}
	}
	return c
}

func wantTooLarge(t *testing.T, c []byte, most int) {
	t.Helper()
	if got, err := entropy.Decode(c, most); got != nil || err != api.ErrTooLarge {
		text, size := short(c)
		t.Fatalf("Decode(%q, %d bytes, %d): %d bytes, %d", text, size, most, len(got), err)
	}
}

// wantFitting asks for the text of anything: it is one of the two errors, or the text with this encoding.
func wantFitting(t *testing.T, c []byte, most int) (ok bool) {
	t.Helper()
	b, err := entropy.Decode(c, most)
	text, size := short(c)
	if err != api.OK {
		if b != nil || err != api.ErrCorrupt && err != api.ErrTooLarge {
			t.Fatalf("Decode(%q, %d bytes, %d): %q, %d", text, size, most, b, err)
		}
		return false
	}
	if len(b) > most || !bytes.Equal(entropy.Encode(b), c) {
		t.Fatalf("Decode(%q, %d bytes, %d): %q, which has another encoding", text, size, most, b)
	}
	return true
}

// texts gives each text of up to size letters.
func texts(letters string, size int) [][]byte {
	all := [][]byte{nil}
	for k := 0; len(all[k]) < size; k++ {
		for _, l := range []byte(letters) {
			all = append(all, append(slices.Clone(all[k]), l))
		}
	}
	return all
}

// anyText has bytes of a kind that is chosen anew for each text: few or many letters, runs, what was there before.
func anyText(r *rand.Rand, most int) []byte {
	size := r.Intn(most + 1)
	few, low, repeat := 1+r.Intn(1<<r.Intn(9)), r.Intn(256), r.Intn(4)
	var b []byte
	for len(b) < size {
		switch {
		case repeat == 0 || len(b) == 0 || r.Intn(6) == 0:
			b = append(b, byte(low+r.Intn(few)))
		case repeat == 1:
			b = append(b, slices.Repeat(b[len(b)-1:], 1+r.Intn(9))...)
		default:
			from := r.Intn(len(b))
			b = append(b, b[from:from+r.Intn(len(b)-from+1)]...)
		}
	}
	return b[:size]
}

func noise(r *rand.Rand, size int) []byte {
	b := make([]byte, size)
	r.Read(b)
	return b
}

func TestP10_1Example(t *testing.T) {
	c := entropy.Encode([]byte("banana"))
	if got, err := entropy.Decode(c, 6); string(got) != "banana" || err != api.OK {
		t.Errorf("%q, %d", got, err)
	}
	if got, err := entropy.Decode(c, 5); got != nil || err != api.ErrTooLarge {
		t.Errorf("%q, %d", got, err)
	}
}

func TestP10_1NoBytes(t *testing.T) {
	c := entropy.Encode(nil)
	for _, b := range [][]byte{nil, {}, make([]byte, 0, 9), []byte("abc")[:0]} {
		if !bytes.Equal(wantBoth(t, b), c) {
			t.Error("no bytes have two encodings")
		}
		for _, most := range []int{math.MinInt, -1, 0, 1, math.MaxInt} {
			if len(c) == 0 || wantFitting(t, b, most) {
				t.Error("no bytes are an encoding")
			}
		}
	}
}

func TestP10_1EachByte(t *testing.T) {
	for x := range 256 {
		wantBoth(t, []byte{byte(x)})
		for _, y := range []int{x - 1, x, x + 1, 0, 1, 127, 128, 255} {
			wantBoth(t, []byte{byte(x), byte(y)})
			wantBoth(t, []byte{byte(y), byte(x), byte(y)})
		}
	}
}

// Each short text, and no two of them with the same encoding.
func TestP10_1EachShortText(t *testing.T) {
	origins := map[string]string{}
	for _, x := range []struct {
		letters string
		size    int
	}{{"ab", 10}, {"\x00\x01", 9}, {"\xff\x00", 9}, {"abc", 6}, {"\x00\x80\x7f", 5}, {"abcd", 5}} {
		for _, b := range texts(x.letters, x.size) {
			c := string(wantBoth(t, b))
			if other, ok := origins[c]; ok && other != string(b) {
				t.Fatalf("%q and %q have the same encoding", other, b)
			}
			origins[c] = string(b)
		}
	}
}

func TestP10_1AnyText(t *testing.T) {
	r := rand.New(rand.NewSource(1))
	for range 2_000 {
		wantBoth(t, anyText(r, 300))
	}
	for range 500 {
		wantBoth(t, anyText(r, api.MaxBlock))
	}
	for range 20 {
		wantBoth(t, anyText(r, 20_000))
	}
}

// Bytes of which all are the same: each byte, each short size, and long ones.
func TestP10_1AllTheSame(t *testing.T) {
	for x := range 256 {
		for _, size := range []int{1, 2, 3, 255, 256, 257, 1000, 5000} {
			wantBoth(t, bytes.Repeat([]byte{byte(x)}, size))
		}
	}
	for _, x := range []byte{0, 1, 7, 255} {
		for size := range 300 {
			wantBoth(t, bytes.Repeat([]byte{x}, size))
		}
		for size := 1 << 10; size <= 1<<20; size *= 2 {
			wantBoth(t, bytes.Repeat([]byte{x}, size-1))
			wantBoth(t, bytes.Repeat([]byte{x}, size))
		}
	}
}

// Bytes without order, which are the longest ones to write.
func TestP10_1Noise(t *testing.T) {
	r := rand.New(rand.NewSource(2))
	for size := range 700 {
		wantBoth(t, noise(r, size))
	}
	for size := 1_000; size < 100_000; size += size / 3 {
		wantBoth(t, noise(r, size))
	}
	for range 100 {
		var b []byte
		for range 1 + r.Intn(8) {
			for _, x := range r.Perm(256) {
				b = append(b, byte(x))
			}
		}
		wantBoth(t, b)
	}
}

// An order is what makes a text short.
func TestP10_1Compresses(t *testing.T) {
	r := rand.New(rand.NewSource(3))
	few := noise(r, 10_000)
	for k := range few {
		few[k] %= 4
	}
	piece := noise(r, 100)
	for _, x := range []struct {
		b    []byte
		most int
	}{
		{bytes.Repeat([]byte("the same again, "), 60), 300},
		{bytes.Repeat(piece, 100), 400},
		{few, 10_000*3/8 + 400},
		{make([]byte, 1<<20), 300},
	} {
		if c := wantBoth(t, x.b); len(c) > x.most {
			text, size := short(x.b)
			t.Errorf("%q, %d bytes: %d bytes, more than %d", text, size, len(c), x.most)
		}
	}
}

// fibonacci gives a text in the transform of which the places of the list of bytes come as often as the numbers of
// Fibonacci.
func fibonacci(r *rand.Rand, kinds int) []byte {
	var places []byte
	for k, here, next := 1, 1, 1; k <= kinds; k++ {
		places = append(places, bytes.Repeat([]byte{byte(k)}, here)...)
		here, next = next, here+next
	}
	for {
		r.Shuffle(len(places), func(i, j int) { places[i], places[j] = places[j], places[i] })
		l := mtf.Decode(places)
		for at := range len(l) + 1 {
			if b, err := bwt.Back(l, at); err == api.OK {
				return b
			}
		}
	}
}

// Without a limit, the longest codes of these would have more than MaxBits bits.
func TestP10_1LongCodes(t *testing.T) {
	r := rand.New(rand.NewSource(11))
	for _, kinds := range []int{12, 13, 14, 15, 16, 17, 18, 19} {
		wantBoth(t, fibonacci(r, kinds))
	}
}

// faults calls look with each list that is one fault away from c: a bit that changed, bytes that changed, went or came.
func faults(r *rand.Rand, c []byte, look func([]byte)) {
	for k := range c {
		wrong := slices.Clone(c)
		for bit := range 8 {
			wrong[k] ^= 1 << bit
			look(wrong)
			wrong[k] ^= 1 << bit
		}
		wrong[k] = ^wrong[k]
		look(wrong)
		wrong[k] = byte(r.Intn(256))
		look(wrong)
		wrong = slices.Clone(c)
		other := r.Intn(len(c))
		wrong[k], wrong[other] = wrong[other], wrong[k]
		look(wrong)
		look(slices.Delete(slices.Clone(c), k, k+1))
		look(slices.Insert(slices.Clone(c), k, byte(r.Intn(256))))
		look(c[:k])
		look(c[k+1:])
	}
	for _, x := range []byte{0, 1, 128, 255} {
		look(append(slices.Clone(c), x))
		look(append([]byte{x}, c...))
	}
	look(append(slices.Clone(c), c...))
	look(append(slices.Clone(c), 0, 0, 0, 0, 0, 0, 0, 0))
}

func TestP10_1OneFault(t *testing.T) {
	r := rand.New(rand.NewSource(4))
	met, missed := 0, 0
	look := func(c []byte) {
		for _, most := range []int{0, 50, 300, 5_000, math.MaxInt} {
			if wantFitting(t, c, most) {
				met++
			} else {
				missed++
			}
		}
	}
	list := [][]byte{nil, {0}, {255}, []byte("banana"), make([]byte, 1000), bytes.Repeat([]byte{9}, 257), noise(r, 40), noise(r, 300)}
	for range 60 {
		list = append(list, anyText(r, 200))
	}
	for _, b := range list {
		faults(r, entropy.Encode(b), look)
	}
	if met < 100 || missed < 10_000 {
		t.Errorf("%d texts, and %d lists without one", met, missed)
	}
}

// A list behind which there is more is another list, and so is one of which the end is missing.
func TestP10_1MoreAndLess(t *testing.T) {
	r := rand.New(rand.NewSource(5))
	for range 100 {
		c := entropy.Encode(anyText(r, 300))
		for _, more := range [][]byte{{0}, {1}, {255}, make([]byte, 9), c} {
			if got, err := entropy.Decode(append(slices.Clone(c), more...), 300); got != nil || err != api.ErrCorrupt {
				t.Fatalf("%d bytes and %d more: %q, %d", len(c), len(more), got, err)
			}
		}
		for size := range c {
			if got, err := entropy.Decode(c[:size], 300); got != nil || err != api.ErrCorrupt {
				t.Fatalf("%d bytes of %d: %q, %d", size, len(c), got, err)
			}
		}
	}
}

// Lists that no text was asked for.
func TestP10_1Anything(t *testing.T) {
	r := rand.New(rand.NewSource(6))
	for x := range 256 {
		wantFitting(t, []byte{byte(x)}, 9)
		for y := range 256 {
			wantFitting(t, []byte{byte(x), byte(y)}, 1_000)
		}
	}
	for range 50_000 {
		wantFitting(t, noise(r, r.Intn(100)), 1_000)
	}
	for range 5_000 {
		wantFitting(t, anyText(r, 600), math.MaxInt)
	}
	for _, x := range []byte{0, 1, 0x55, 0x80, 0xff} {
		for size := range 200 {
			wantFitting(t, bytes.Repeat([]byte{x}, size), math.MaxInt)
		}
		wantFitting(t, bytes.Repeat([]byte{x}, 1<<20), math.MaxInt)
	}
}

// Two texts that differ in one byte, or in their size, have different encodings.
func TestP10_1DifferentTexts(t *testing.T) {
	r := rand.New(rand.NewSource(7))
	for range 300 {
		b := append(anyText(r, 100), 'x')
		c := entropy.Encode(b)
		for k := range b {
			other := slices.Clone(b)
			other[k]++
			if bytes.Equal(entropy.Encode(other), c) || bytes.Equal(entropy.Encode(b[:k]), c) {
				t.Fatalf("%q: the same encoding without or with another byte at %d", b, k)
			}
		}
	}
}

// allocated tells how many bytes a call asks for.
func allocated(call func()) uint64 {
	var before, behind runtime.MemStats
	runtime.ReadMemStats(&before)
	call()
	runtime.ReadMemStats(&behind)
	return behind.TotalAlloc - before.TotalAlloc
}

// A few bytes that tell a long text take no memory for it, where most is small.
func TestP10_1MemoryForMost(t *testing.T) {
	for _, x := range []byte{0, 1, 255} {
		c := entropy.Encode(bytes.Repeat([]byte{x}, 1<<22))
		for _, most := range []int{0, 1, 1_000} {
			if n := allocated(func() { wantTooLarge(t, c, most) }); n > 1<<18 {
				t.Errorf("most %d: %d bytes", most, n)
			}
		}
	}
	c := entropy.Encode(noise(rand.New(rand.NewSource(8)), 1<<18))
	for _, most := range []int{0, 1, 1_000} {
		if n := allocated(func() { wantTooLarge(t, c, most) }); n > 1<<19 {
			t.Errorf("most %d: %d bytes", most, n)
		}
	}
}

// The time grows as the text does, whatever the text: none of these would end, were it the square.
func TestP10_1LongOnes(t *testing.T) {
	const size = 1 << 20
	r := rand.New(rand.NewSource(9))
	random := noise(r, size)
	for _, b := range [][]byte{
		random,
		append(make([]byte, size), 1),
		append(bytes.Repeat([]byte("a"), size), 'b'),
		bytes.Repeat([]byte("aab"), size/3),
		slices.Concat(random[:size/2], random[:size/2]),
	} {
		c := entropy.Encode(b)
		if len(c) > len(b)*9/8+400 {
			t.Fatalf("%d bytes: %d bytes", len(b), len(c))
		}
		if got, err := entropy.Decode(c, len(b)); !bytes.Equal(got, b) || err != api.OK {
			t.Fatalf("%d bytes: not the same after the way there and back: %d", len(b), err)
		}
		wantTooLarge(t, c, len(b)-1)
	}
}

// The same arguments get the same answer, whatever was asked before: P0.5.
func TestP10_1CallsAreApart(t *testing.T) {
	r := rand.New(rand.NewSource(10))
	for range 300 {
		b, other := anyText(r, 200), anyText(r, 200)
		c := entropy.Encode(b)
		entropy.Decode(other, 200)
		entropy.Decode(entropy.Encode(other), 200)
		entropy.Decode(entropy.Encode(other), 2)
		if !bytes.Equal(entropy.Encode(slices.Clone(b)), c) {
			t.Fatalf("%q: two encodings", b)
		}
		if got, err := entropy.Decode(slices.Clone(c), 200); !bytes.Equal(got, b) || err != api.OK {
			t.Fatalf("%q: then %q, %d", b, got, err)
		}
	}
}

// The answers are new memory, and the lists are left alone with what lies behind them: P0.3.
func TestP10_1SharesNothing(t *testing.T) {
	decode := func(c []byte) []byte {
		b, _ := entropy.Decode(c, 50)
		return b
	}
	spoil := func(list []byte) {
		list = list[:cap(list)]
		for k := range list {
			list[k] ^= 0xff
		}
	}
	behind := []byte("mississippi, banana")
	for size := range behind {
		text := behind[:size]
		c := entropy.Encode(text)
		for _, x := range []struct {
			call       func([]byte) []byte
			list, want []byte
		}{{entropy.Encode, text, c}, {decode, c, text}} {
			whole := append(slices.Clone(x.list), 1, 2, 3)
			before := slices.Clone(whole)
			list := whole[:len(x.list)]
			want := slices.Clone(x.want)
			first, second := x.call(list), x.call(list)
			spoil(first)
			if !bytes.Equal(second, want) || !bytes.Equal(x.call(list), want) || !bytes.Equal(whole, before) {
				t.Errorf("%d bytes: two answers share memory, or the list was changed", size)
			}
			spoil(whole)
			if !bytes.Equal(second, want) {
				t.Errorf("%d bytes: the answer follows its list", size)
			}
		}
	}
}
