package bwt_test

import (
	"bytes"
	"math"
	"math/rand"
	"slices"
	"testing"

	"folio/api"
	"folio/bwt"
)

// plainForward is what Forward should answer, by the chapter's words.
func plainForward(b []byte) ([]byte, int) {
	var order []int
	for from := range len(b) + 1 {
		order = append(order, from)
	}
	slices.SortFunc(order, func(i, j int) int { return bytes.Compare(b[i:], b[j:]) })
	var l []byte
	for _, from := range order {
		if from > 0 {
			l = append(l, b[from-1])
		}
	}
	return l, slices.Index(order, 0)
}

// short is b, or where it is long what it begins with and how long it is.
func short(b []byte) (string, int) {
	return string(b[:min(len(b), 60)]), len(b)
}

// wantThere asks for the transform of b, which must be the plain one, and for the way back.
func wantThere(t *testing.T, b []byte) {
	t.Helper()
	want, place := plainForward(b)
	l, at := bwt.Forward(b)
	if text, size := short(b); !bytes.Equal(l, want) || at != place {
		t.Fatalf("Forward(%q, %d bytes): %q, %d, not %q, %d", text, size, l, at, want, place)
	}
	wantBack(t, l, at, b)
}

// wantBack asks for the text of a transform.
func wantBack(t *testing.T, l []byte, at int, b []byte) {
	t.Helper()
	if got, errno := bwt.Back(l, at); !bytes.Equal(got, b) || errno != api.OK {
		text, size := short(l)
		t.Fatalf("Back(%q, %d bytes, %d): %q, %d, not %q", text, size, at, got, errno, b)
	}
}

// wantNone asks for the text of what is no transform.
func wantNone(t *testing.T, l []byte, at int) {
	t.Helper()
	if got, errno := bwt.Back(l, at); got != nil || errno != api.ErrCorrupt {
		text, size := short(l)
		t.Fatalf("Back(%q, %d bytes, %d): %q, %d", text, size, at, got, errno)
	}
}

// wantFitting asks for the text of anything: it is ErrCorrupt, or the text with this transform.
func wantFitting(t *testing.T, l []byte, at int) (ok bool) {
	t.Helper()
	b, errno := bwt.Back(l, at)
	if errno != api.OK {
		wantNone(t, l, at)
		return false
	}
	if again, place := plainForward(b); !bytes.Equal(again, l) || place != at {
		t.Fatalf("Back(%q, %d): %q, the transform of which is %q, %d", l, at, b, again, place)
	}
	return true
}

// texts gives each text of up to size letters.
func texts(letters string, size int) [][]byte {
	all := [][]byte{nil}
	for k := 0; len(all[k]) < size; k++ {
		for _, l := range []byte(letters) {
			all = append(all, append(slices.Clone(all[k]), l))
		}
	}
	return all
}

// anyText has bytes of a kind that is chosen anew for each text: few or many letters, runs, what was there before.
func anyText(r *rand.Rand, most int) []byte {
	size := r.Intn(most + 1)
	few, low, repeat := 1+r.Intn(1<<r.Intn(9)), r.Intn(256), r.Intn(4)
	var b []byte
	for len(b) < size {
		switch {
		case repeat == 0 || len(b) == 0 || r.Intn(6) == 0:
			b = append(b, byte(low+r.Intn(few)))
		case repeat == 1:
			b = append(b, slices.Repeat(b[len(b)-1:], 1+r.Intn(9))...)
		default:
			from := r.Intn(len(b))
			b = append(b, b[from:from+r.Intn(len(b)-from+1)]...)
		}
	}
	return b[:size]
}

func TestP9_1Examples(t *testing.T) {
	for _, x := range []struct {
		b, l string
		at   int
	}{
		{"banana", "annbaa", 4},
		{"", "", 0},
		{"a", "a", 1},
		{"ab", "ba", 1},
		{"ba", "ab", 2},
		{"aa", "aa", 2},
		{"aaaa", "aaaa", 4},
		{"mississippi", "ipssmpissii", 5},
		{"abracadabra", "ardrcaaaabb", 3},
		{"\x00", "\x00", 1},
		{"\x00\x00\x00", "\x00\x00\x00", 3},
		{"\xff\x00", "\x00\xff", 2},
		{"\x00\xff", "\xff\x00", 1},
		{"\x80\x7f\x80", "\x80\x80\x7f", 3},
	} {
		if l, at := bwt.Forward([]byte(x.b)); string(l) != x.l || at != x.at {
			t.Errorf("Forward(%q): %q, %d, not %q, %d", x.b, l, at, x.l, x.at)
		}
		wantThere(t, []byte(x.b))
		wantBack(t, []byte(x.l), x.at, []byte(x.b))
	}
	for _, x := range []struct {
		l  string
		at int
	}{{"", 1}, {"a", 0}, {"a", 2}, {"aab", 1}} {
		wantNone(t, []byte(x.l), x.at)
	}
}

func TestP9_1NoBytes(t *testing.T) {
	for _, b := range [][]byte{nil, {}, make([]byte, 0, 9), []byte("abc")[:0]} {
		if l, at := bwt.Forward(b); len(l) != 0 || at != 0 {
			t.Errorf("Forward: %q, %d", l, at)
		}
		wantBack(t, b, 0, nil)
		for _, at := range []int{math.MinInt, -2, -1, 1, 2, 1 << 32, math.MaxInt} {
			wantNone(t, b, at)
		}
	}
}

func TestP9_1EachByte(t *testing.T) {
	for x := range 256 {
		wantThere(t, []byte{byte(x)})
		for y := range 256 {
			wantThere(t, []byte{byte(x), byte(y)})
			wantThere(t, []byte{byte(x), byte(y), byte(x)})
			wantThere(t, []byte{byte(x), byte(y), byte(x), byte(y), byte(y)})
		}
	}
}

func TestP9_1EachShortText(t *testing.T) {
	for _, x := range []struct {
		letters string
		size    int
	}{{"ab", 13}, {"\x00\xff", 11}, {"abc", 8}, {"\x7f\x80\x00", 7}, {"abcd", 6}} {
		for _, b := range texts(x.letters, x.size) {
			wantThere(t, b)
		}
	}
}

// Each list with each place is the transform of the one text that has it, or else of none.
func TestP9_1BackOfEachShortList(t *testing.T) {
	type transform struct {
		l  string
		at int
	}
	for _, x := range []struct {
		letters string
		size    int
	}{{"ab", 9}, {"\x00\xff", 8}, {"abc", 6}, {"dcba", 5}} {
		all := texts(x.letters, x.size)
		origins := map[transform][]byte{}
		for _, b := range all {
			l, at := plainForward(b)
			origins[transform{string(l), at}] = b
		}
		if len(origins) != len(all) {
			t.Fatalf("%q: two texts have one transform", x.letters)
		}
		for _, l := range all {
			for at := -2; at < len(l)+3; at++ {
				if b, ok := origins[transform{string(l), at}]; ok {
					wantBack(t, l, at, b)
				} else {
					wantNone(t, l, at)
				}
			}
		}
	}
}

func TestP9_1AnyText(t *testing.T) {
	r := rand.New(rand.NewSource(1))
	for range 5_000 {
		wantThere(t, anyText(r, 300))
	}
	for range 300 {
		wantThere(t, anyText(r, api.MaxBlock))
	}
	for range 30 {
		wantThere(t, anyText(r, 10_000))
	}
}

func TestP9_1RunsAndRepeats(t *testing.T) {
	for n := range 60 {
		for _, x := range []byte{0, 7, 255} {
			run := bytes.Repeat([]byte{x}, n)
			wantThere(t, run)
			// Of a run, only the place behind all others is the whole.
			for at := -1; at < n; at++ {
				if n > 0 {
					wantNone(t, run, at)
				}
			}
			wantNone(t, run, n+1)
			wantThere(t, append(slices.Clone(run), x+1))
			wantThere(t, append(slices.Clone(run), x-1))
			wantThere(t, append([]byte{x + 1}, run...))
			wantThere(t, append([]byte{x - 1}, run...))
		}
	}
	for _, piece := range texts("abc", 4)[1:] {
		for _, count := range []int{2, 3, 10} {
			b := bytes.Repeat(piece, count)
			wantThere(t, b)
			wantThere(t, append(b, 'b'))
		}
	}
}

// All bytes, up, down and mixed: each byte's suffixes keep to their part of the order.
func TestP9_1ManyLetters(t *testing.T) {
	var up, down []byte
	for x := range 256 {
		up, down = append(up, byte(x)), append(down, byte(255-x))
	}
	for _, b := range [][]byte{up, down, slices.Repeat(up, 3), slices.Repeat(down, 3), slices.Concat(up, down, up), slices.Concat(down, up, down)} {
		wantThere(t, b)
	}
	r := rand.New(rand.NewSource(2))
	for range 200 {
		b := slices.Concat(up, down, up[:r.Intn(256)])
		r.Shuffle(len(b), func(i, j int) { b[i], b[j] = b[j], b[i] })
		wantThere(t, b)
	}
}

// A transform with other places: one of them may fit another text, but mostly there is none.
func TestP9_1OtherPlaces(t *testing.T) {
	r := rand.New(rand.NewSource(3))
	met, missed := 0, 0
	for range 1_000 {
		b := append(anyText(r, 80), 'x')
		l, at := plainForward(b)
		wantBack(t, l, at, b)
		for other := -1; other < len(l)+2; other++ {
			switch {
			case other == at:
			case wantFitting(t, l, other):
				met++
			default:
				missed++
			}
		}
		for _, other := range []int{math.MinInt, math.MinInt + 1, math.MinInt32, -len(l), -at, 0, len(l) + 1, 1 << 31, 1<<32 + at, 1 << 40, math.MaxInt - 1, math.MaxInt} {
			wantNone(t, l, other)
		}
	}
	if met < 100 || missed < 1_000 {
		t.Errorf("%d other texts, and %d places without one", met, missed)
	}
}

// A transform with one fault: a byte that changed, went, came, or changed its place with another one.
func TestP9_1OneFault(t *testing.T) {
	r := rand.New(rand.NewSource(4))
	met, missed := 0, 0
	look := func(l []byte, at int) {
		if wantFitting(t, l, at) {
			met++
		} else {
			missed++
		}
	}
	for range 300 {
		l, at := plainForward(append(anyText(r, 60), 'x'))
		for k := range l {
			wrong := slices.Clone(l)
			wrong[k]++
			look(wrong, at)
			wrong[k] = byte(r.Intn(256))
			look(wrong, at)
			wrong = slices.Clone(l)
			other := r.Intn(len(l))
			wrong[k], wrong[other] = wrong[other], wrong[k]
			look(wrong, at)
			look(slices.Delete(slices.Clone(l), k, k+1), at)
			look(slices.Insert(slices.Clone(l), k, l[k]), at)
		}
	}
	if met < 1_000 || missed < 1_000 {
		t.Errorf("%d texts, and %d lists without one", met, missed)
	}
}

// Bytes and places that no text was asked for.
func TestP9_1Anything(t *testing.T) {
	r := rand.New(rand.NewSource(5))
	met := 0
	for range 30_000 {
		l := anyText(r, 12)
		if wantFitting(t, l, r.Intn(len(l)+3)-1) {
			met++
		}
	}
	for range 300 {
		l := anyText(r, 2_000)
		wantFitting(t, l, r.Intn(len(l)+3)-1)
	}
	if met < 300 {
		t.Errorf("%d texts", met)
	}
}

// The time grows as the text does, whatever the text: none of these would end, were it the square.
func TestP9_1LongOnes(t *testing.T) {
	const size = 1 << 20
	r := rand.New(rand.NewSource(6))
	random := make([]byte, size)
	r.Read(random)
	few := make([]byte, size)
	for k := range few {
		few[k] = "ab"[r.Intn(2)]
	}
	for _, b := range [][]byte{
		make([]byte, size),
		append(bytes.Repeat([]byte("b"), size), 'a'),
		append(bytes.Repeat([]byte("a"), size), 'b'),
		bytes.Repeat([]byte("aab"), size/3),
		slices.Concat(random[:size/2], random[:size/2]),
		random,
		few,
	} {
		l, at := bwt.Forward(b)
		if at < 1 || at > len(b) || len(l) != len(b) {
			t.Fatalf("%d bytes: %d, %d", len(b), len(l), at)
		}
		if got, errno := bwt.Back(l, at); !bytes.Equal(got, b) || errno != api.OK {
			text, size := short(b)
			t.Fatalf("%q, %d bytes: not the same after the way there and back: %d", text, size, errno)
		}
	}
	run := make([]byte, size)
	for _, at := range []int{0, 1, size / 2, size - 1, size + 1} {
		wantNone(t, run, at)
	}
}

// The same arguments get the same answer, whatever was asked before: P0.5.
func TestP9_1CallsAreApart(t *testing.T) {
	r := rand.New(rand.NewSource(7))
	for range 300 {
		b := anyText(r, 200)
		l, at := bwt.Forward(b)
		other := anyText(r, 200)
		bwt.Back(bwt.Forward(other))
		bwt.Back(other, len(other)/2)
		if again, place := bwt.Forward(slices.Clone(b)); !bytes.Equal(again, l) || place != at {
			t.Fatalf("Forward(%q): %q, %d, and then %q, %d", b, l, at, again, place)
		}
		wantBack(t, slices.Clone(l), at, b)
	}
}

// The answers are new memory, and the lists are left alone with what lies behind them: P0.3.
func TestP9_1SharesNothing(t *testing.T) {
	spoil := func(list []byte) {
		list = list[:cap(list)]
		for k := range list {
			list[k] = '#'
		}
	}
	behind := []byte("mississippi, banana")
	for size := range behind {
		whole := slices.Clone(behind)
		b := whole[:size]
		l, at := plainForward(b)
		one, _ := bwt.Forward(b)
		other, _ := bwt.Forward(b)
		spoil(one)
		if third, _ := bwt.Forward(b); !bytes.Equal(other, l) || !bytes.Equal(third, l) || !bytes.Equal(whole, behind) {
			t.Errorf("%d bytes: two transforms share memory, or the text was changed", size)
		}

		list := append(slices.Clone(l), 1, 2, 3)
		before := slices.Clone(list)
		first, _ := bwt.Back(list[:size], at)
		second, _ := bwt.Back(list[:size], at)
		spoil(first)
		bwt.Back(list[:size], 0)
		if third, _ := bwt.Back(list[:size], at); !bytes.Equal(second, b) || !bytes.Equal(third, b) || !bytes.Equal(list, before) {
			t.Errorf("%d bytes: two texts share memory, or the list was changed", size)
		}

		spoil(whole)
		spoil(list)
		if !bytes.Equal(other, l) || !bytes.Equal(second, behind[:size]) {
			t.Errorf("%d bytes: an answer follows its list", size)
		}
	}
}
