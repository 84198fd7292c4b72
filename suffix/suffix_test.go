package suffix_test

import (
	"bytes"
	"math"
	"math/rand"
	"slices"
	"testing"

	"folio/suffix"
)

// plainSort is what Sort should answer.
func plainSort(b []byte) []int {
	var sa []int
	for at := range b {
		sa = append(sa, at)
	}
	slices.SortFunc(sa, func(i, j int) int { return bytes.Compare(b[i:], b[j:]) })
	return sa
}

// plainCommon is what Common should answer for the order of the suffixes.
func plainCommon(b []byte, sa []int) []int {
	common := make([]int, len(sa))
	for k := 1; k < len(sa); k++ {
		one, other := b[sa[k-1]:], b[sa[k]:]
		for n := 0; n < min(len(one), len(other)) && one[n] == other[n]; n++ {
			common[k]++
		}
	}
	return common
}

// short is b, or where it is long what it begins with and how long it is.
func short(b []byte) (string, int) {
	return string(b[:min(len(b), 60)]), len(b)
}

// wantBoth asks for the order of b and the common prefixes in it, and holds both against the plain forms.
func wantBoth(t *testing.T, b []byte) {
	t.Helper()
	sa := plainSort(b)
	text, size := short(b)
	if got := suffix.Sort(b); !slices.Equal(got, sa) {
		t.Fatalf("Sort(%q, %d bytes): %v, not %v", text, size, got, sa)
	}
	common := plainCommon(b, sa)
	if got := suffix.Common(b, sa); !slices.Equal(got, common) {
		t.Fatalf("Common(%q, %d bytes): %v, not %v", text, size, got, common)
	}
}

// wantLong asks for the same of a text that is too long for the plain forms: each neighbour of the order is held against
// the next one behind the prefix that Common tells.
func wantLong(t *testing.T, b []byte) {
	t.Helper()
	text, size := short(b)
	sa := suffix.Sort(b)
	common := suffix.Common(b, sa)
	if len(sa) != len(b) || len(common) != len(b) {
		t.Fatalf("%q, %d bytes: %d indices, %d prefixes", text, size, len(sa), len(common))
	}
	met := make([]bool, len(b))
	for _, at := range sa {
		if met[at] {
			t.Fatalf("Sort(%q, %d bytes): %d twice", text, size, at)
		}
		met[at] = true
	}
	places := make([]int, len(b))
	for k, at := range sa {
		places[at] = k
	}
	for k := 1; k < len(sa); k++ {
		one, other, n := b[sa[k-1]:], b[sa[k]:], common[k]
		if n < 0 || n > min(len(one), len(other)) {
			t.Fatalf("Common(%q, %d bytes): %d at %d", text, size, n, k)
		}
		if n == len(other) || n < len(one) && one[n] >= other[n] {
			t.Fatalf("%q, %d bytes: %d at %d: not the order, or not the longest prefix", text, size, n, k)
		}
		// That the n bytes are alike follows from the first one and the prefixes of the two suffixes a byte later.
		if n > 0 && one[0] != other[0] {
			t.Fatalf("Common(%q, %d bytes): %d at %d", text, size, n, k)
		}
		if n > 1 {
			from, to := places[sa[k-1]+1], places[sa[k]+1]
			if from >= to {
				t.Fatalf("Sort(%q, %d bytes): %d and %d", text, size, sa[k-1], sa[k])
			}
			// A long way between the two is not walked, so that the test ends: the order was looked at above.
			if to-from < 50 && slices.Min(common[from+1:to+1]) != n-1 {
				t.Fatalf("Common(%q, %d bytes): %d at %d", text, size, n, k)
			}
		}
	}
}

// wantNone asks Common for the prefixes of a list that is not the order.
func wantNone(t *testing.T, b []byte, sa []int) {
	t.Helper()
	if got := suffix.Common(b, sa); len(got) != 0 {
		text, size := short(b)
		t.Fatalf("Common(%q, %d bytes; %d indices): %d prefixes", text, size, len(sa), len(got))
	}
}

// texts gives each text of up to size letters.
func texts(letters string, size int) [][]byte {
	all := [][]byte{nil}
	for k := 0; len(all[k]) < size; k++ {
		for _, l := range []byte(letters) {
			all = append(all, append(slices.Clone(all[k]), l))
		}
	}
	return all
}

// anyText has bytes of a kind that is chosen anew for each text: few or many letters, runs, what was there before with
// or without faults.
func anyText(r *rand.Rand, most int) []byte {
	size := r.Intn(most + 1)
	few, low, repeat := 1+r.Intn(1<<r.Intn(9)), r.Intn(256), r.Intn(4)
	var b []byte
	for len(b) < size {
		switch {
		case repeat == 0 || len(b) == 0 || r.Intn(6) == 0:
			b = append(b, byte(low+r.Intn(few)))
		case repeat == 1:
			b = append(b, slices.Repeat(b[len(b)-1:], 1+r.Intn(9))...)
		default:
			from := r.Intn(len(b))
			b = append(b, b[from:from+r.Intn(len(b)-from+1)]...)
		}
	}
	return b[:size]
}

// word is a text that grows by a rule: each letter stands for some letters, again and again; a must stand for two or
// more, with an a among them.
func word(size int, rule map[byte]string) []byte {
	b := []byte("a")
	for len(b) < size {
		var longer []byte
		for _, l := range b {
			longer = append(longer, rule[l]...)
		}
		b = longer
	}
	return b
}

func fibonacci(size int) []byte {
	return word(size, map[byte]string{'a': "ab", 'b': "a"})
}

func thueMorse(size int) []byte {
	return word(size, map[byte]string{'a': "ab", 'b': "ba"})
}

func TestP8_1Examples(t *testing.T) {
	for _, x := range []struct {
		b          string
		sa, common []int
	}{
		{"banana", []int{5, 3, 1, 0, 4, 2}, []int{0, 1, 3, 0, 0, 2}},
		{"a", []int{0}, []int{0}},
		{"aa", []int{1, 0}, []int{0, 1}},
		{"aaaa", []int{3, 2, 1, 0}, []int{0, 1, 2, 3}},
		{"ab", []int{0, 1}, []int{0, 0}},
		{"ba", []int{1, 0}, []int{0, 0}},
		{"aab", []int{0, 1, 2}, []int{0, 1, 0}},
		{"aba", []int{2, 0, 1}, []int{0, 1, 0}},
		{"mississippi", []int{10, 7, 4, 1, 0, 9, 8, 6, 3, 5, 2}, []int{0, 1, 1, 4, 0, 0, 1, 0, 2, 1, 3}},
		{"\xff\x00\xff", []int{1, 2, 0}, []int{0, 0, 1}},
		{"\x00\x00", []int{1, 0}, []int{0, 1}},
		{"\x80\x7f\x80", []int{1, 2, 0}, []int{0, 0, 1}},
	} {
		wantBoth(t, []byte(x.b))
		if got := suffix.Sort([]byte(x.b)); !slices.Equal(got, x.sa) {
			t.Errorf("Sort(%q): %v, not %v", x.b, got, x.sa)
		}
		if got := suffix.Common([]byte(x.b), x.sa); !slices.Equal(got, x.common) {
			t.Errorf("Common(%q): %v, not %v", x.b, got, x.common)
		}
	}
	wantNone(t, []byte("ab"), []int{1, 0})
}

func TestP8_1NoBytes(t *testing.T) {
	for _, b := range [][]byte{nil, {}, make([]byte, 0, 9), []byte("abc")[:0]} {
		if got := suffix.Sort(b); len(got) != 0 {
			t.Errorf("Sort: %v", got)
		}
		for _, sa := range [][]int{nil, {}, make([]int, 0, 9), {0}, {-1}, {0, 1}} {
			if got := suffix.Common(b, sa); len(got) != 0 {
				t.Errorf("Common(%v): %v", sa, got)
			}
		}
	}
}

func TestP8_1EachByte(t *testing.T) {
	for x := range 256 {
		wantBoth(t, []byte{byte(x)})
		for y := range 256 {
			wantBoth(t, []byte{byte(x), byte(y)})
			wantBoth(t, []byte{byte(x), byte(y), byte(x)})
			wantBoth(t, []byte{byte(x), byte(y), byte(x), byte(y), byte(y)})
		}
	}
}

func TestP8_1EachShortText(t *testing.T) {
	for _, x := range []struct {
		letters string
		size    int
	}{{"ab", 14}, {"\x00\xff", 11}, {"abc", 9}, {"\x7f\x80\x00", 7}, {"abcd", 7}} {
		for _, b := range texts(x.letters, x.size) {
			wantBoth(t, b)
		}
	}
}

func TestP8_1AnyText(t *testing.T) {
	r := rand.New(rand.NewSource(1))
	for range 6_000 {
		wantBoth(t, anyText(r, 300))
	}
	for range 100 {
		wantBoth(t, anyText(r, 6_000))
	}
}

// Texts that consist of pieces which are alike, of pieces of such pieces, and so on.
func TestP8_1TextsOfTexts(t *testing.T) {
	for size := range 120 {
		b := fibonacci(size)
		wantBoth(t, b)
		wantBoth(t, b[:size])
		wantBoth(t, thueMorse(size)[:size])
		slices.Reverse(b)
		wantBoth(t, b)
	}
	r := rand.New(rand.NewSource(2))
	for range 300 {
		rule := map[byte]string{}
		for _, l := range []byte("abc") {
			for range 1 + r.Intn(3) {
				rule[l] += string("abc"[r.Intn(3)])
			}
		}
		// An a among the letters of a keeps the text growing, whatever the other letters stand for.
		rule['a'] += []string{"ab", "ba", "ac", "aab"}[r.Intn(4)]
		wantBoth(t, word(200, rule))
	}
}

func TestP8_1Runs(t *testing.T) {
	for n := range 70 {
		wantBoth(t, bytes.Repeat([]byte{0}, n))
		wantBoth(t, bytes.Repeat([]byte{255}, n))
		wantBoth(t, append(bytes.Repeat([]byte{7}, n), 6))
		wantBoth(t, append(bytes.Repeat([]byte{7}, n), 8))
		for m := range 20 {
			for _, step := range []int{-1, 1} {
				lead := append(bytes.Repeat([]byte{7}, n), bytes.Repeat([]byte{byte(7 + step)}, m)...)
				wantBoth(t, lead)
				wantBoth(t, append(lead, bytes.Repeat([]byte{7}, n)...))
				wantBoth(t, append(lead, lead...))
			}
		}
	}
}

func TestP8_1Repeated(t *testing.T) {
	for _, piece := range texts("abc", 5)[1:] {
		for _, count := range []int{2, 3, 10} {
			wantBoth(t, bytes.Repeat(piece, count))
			wantBoth(t, append(bytes.Repeat(piece, count), 'b'))
		}
	}
}

// All bytes, up, down and mixed: each letter's suffixes keep to their part of the order.
func TestP8_1ManyLetters(t *testing.T) {
	var up, down []byte
	for x := range 256 {
		up, down = append(up, byte(x)), append(down, byte(255-x))
	}
	for _, b := range [][]byte{up, down, bytes.Repeat(up, 3), bytes.Repeat(down, 3), slices.Concat(up, down, up), slices.Concat(down, up, down)} {
		wantBoth(t, b)
	}
	r := rand.New(rand.NewSource(3))
	for range 200 {
		b := slices.Concat(up, down, up[:r.Intn(256)])
		r.Shuffle(len(b), func(i, j int) { b[i], b[j] = b[j], b[i] })
		wantBoth(t, b)
	}
}

func TestP8_1LongOnes(t *testing.T) {
	sa := suffix.Sort(bytes.Repeat([]byte("ab"), 50_000))
	if len(sa) != 100_000 {
		t.Fatalf("%d indices", len(sa))
	}
	for k, at := range sa {
		want := 99_998 - 2*k
		if k >= 50_000 {
			want = 99_999 - 2*(k-50_000)
		}
		if at != want {
			t.Fatalf("index %d: %d, not %d", k, at, want)
		}
	}
	common := suffix.Common(bytes.Repeat([]byte("ab"), 50_000), sa)
	for k, n := range common {
		want := 2 * k
		if k >= 50_000 {
			want = max(0, 2*(k-50_000)-1)
		}
		if n != want {
			t.Fatalf("prefix %d: %d, not %d", k, n, want)
		}
	}
}

// The time grows as the text does, whatever the text: none of these would end, were it the square.
func TestP8_1TimeOfLongOnes(t *testing.T) {
	const size = 1 << 20
	r := rand.New(rand.NewSource(4))
	random := make([]byte, size)
	r.Read(random)
	few := make([]byte, size)
	for k := range few {
		few[k] = "ab"[r.Intn(2)]
	}
	for _, b := range [][]byte{
		make([]byte, size),
		append(bytes.Repeat([]byte("b"), size), 'a'),
		append(bytes.Repeat([]byte("a"), size), 'b'),
		append(bytes.Repeat([]byte("b"), size/2), bytes.Repeat([]byte("a"), size/2)...),
		bytes.Repeat([]byte("aab"), size/3),
		bytes.Repeat([]byte("mississippi"), size/11),
		append(random[:size/2:size/2], random[:size/2]...),
		fibonacci(size),
		thueMorse(size),
		random,
		few,
	} {
		wantLong(t, b)
	}
}

// Each list of the right indices in a wrong order, and each one with indices that are there twice or not at all.
func TestP8_1CommonOfOtherLists(t *testing.T) {
	for _, b := range texts("ab", 5) {
		right := plainSort(b)
		lists := [][]int{nil}
		for k := 0; k < len(lists) && len(lists[k]) <= len(b); k++ {
			sa := lists[k]
			if slices.Equal(sa, right) {
				if got := suffix.Common(b, sa); !slices.Equal(got, plainCommon(b, sa)) {
					t.Fatalf("Common(%q, %v): %v", b, sa, got)
				}
			} else {
				wantNone(t, b, sa)
			}
			for at := -1; at <= len(b); at++ {
				lists = append(lists, append(slices.Clone(sa), at))
			}
		}
	}
}

func TestP8_1CommonOfOneFault(t *testing.T) {
	r := rand.New(rand.NewSource(5))
	for range 1_500 {
		b := append(anyText(r, 60), 'a', 'b')
		right := plainSort(b)
		for k := range right {
			sa := slices.Clone(right)
			for _, at := range []int{math.MinInt, -len(b), -2, -1, len(b), len(b) + 1, 1 << 32, 1<<32 + right[k], math.MaxInt, right[(k+1)%len(b)]} {
				sa[k] = at
				wantNone(t, b, sa)
			}
			sa[k], sa[(k+1)%len(b)] = right[(k+1)%len(b)], right[k]
			wantNone(t, b, sa)
			sa = slices.Clone(right)
			other := r.Intn(len(b))
			if sa[k], sa[other] = sa[other], sa[k]; other != k {
				wantNone(t, b, sa)
			}
			wantNone(t, b, slices.Delete(slices.Clone(right), k, k+1))
			wantNone(t, b, slices.Insert(slices.Clone(right), k, right[k]))
		}
		wantNone(t, b, append(right, len(b)))
		wantNone(t, b, append(right, 0))
		wantNone(t, b, append([]int{len(b)}, right...))
		wantNone(t, b, nil)
		wantNone(t, b, []int{})
	}
}

// A list of indices may be the order of one text and not of another.
func TestP8_1CommonOfAnotherText(t *testing.T) {
	all := texts("abc", 5)
	same := 0
	for _, b := range all {
		right := plainSort(b)
		for _, other := range all {
			sa := plainSort(other)
			if !slices.Equal(sa, right) {
				wantNone(t, b, sa)
				continue
			}
			same++
			if got := suffix.Common(b, sa); !slices.Equal(got, plainCommon(b, sa)) {
				t.Fatalf("Common(%q, the order of %q): %v", b, other, got)
			}
		}
	}
	if same <= len(all) {
		t.Errorf("only %d orders are the same", same)
	}
}

// Orders that are wrong only far behind the first letters, or by where a suffix ends.
func TestP8_1CommonOfWhatIsNearlyTheOrder(t *testing.T) {
	run := bytes.Repeat([]byte("a"), 10_000)
	up := make([]int, len(run))
	for k := range up {
		up[k] = k
	}
	wantNone(t, run, up)
	sa := suffix.Sort(run)
	for _, k := range []int{0, 1, 5_000, 9_998} {
		wrong := slices.Clone(sa)
		wrong[k], wrong[k+1] = wrong[k+1], wrong[k]
		wantNone(t, run, wrong)
	}
	twice := bytes.Repeat([]byte("abcab"), 2_000)
	wantNone(t, append(slices.Clone(twice), 'z'), append([]int{len(twice)}, suffix.Sort(twice)...))
	wantNone(t, append(slices.Clone(twice), 'z'), append(suffix.Sort(twice), len(twice)))
	wantNone(t, twice, suffix.Sort(append([]byte("b"), twice[1:]...)))
	wantNone(t, twice, suffix.Sort(append(slices.Clone(twice[:len(twice)-1]), 'c')))
}

// The same arguments get the same answer, whatever was asked before: P0.5.
func TestP8_1CallsAreApart(t *testing.T) {
	r := rand.New(rand.NewSource(6))
	for range 300 {
		b := anyText(r, 200)
		sa := suffix.Sort(b)
		common := suffix.Common(b, sa)
		other := anyText(r, 200)
		suffix.Common(other, suffix.Sort(other))
		suffix.Common(other, sa)
		if again := suffix.Sort(slices.Clone(b)); !slices.Equal(again, sa) {
			t.Fatalf("Sort(%q): %v, and then %v", b, sa, again)
		}
		if again := suffix.Common(slices.Clone(b), slices.Clone(sa)); !slices.Equal(again, common) {
			t.Fatalf("Common(%q): %v, and then %v", b, common, again)
		}
	}
}

// The answers are new memory, and the lists are left alone with what lies behind them: P0.3.
func TestP8_1SharesNothing(t *testing.T) {
	behind := []byte("mississippi, banana")
	for size := range behind {
		whole := slices.Clone(behind)
		b := whole[:size]
		wantSA := plainSort(b)
		wantCommon := plainCommon(b, wantSA)
		first, second := suffix.Sort(b), suffix.Sort(b)
		first = first[:cap(first)]
		for k := range first {
			first[k] = -7
		}
		if third := suffix.Sort(b); !slices.Equal(second, wantSA) || !slices.Equal(third, wantSA) {
			t.Errorf("%d bytes: two orders share memory", size)
		}
		list := append(slices.Clone(wantSA), 1, 2, 3)
		before := slices.Clone(list)
		one, other := suffix.Common(b, list[:size]), suffix.Common(b, list[:size])
		one = one[:cap(one)]
		for k := range one {
			one[k] = -7
		}
		if !slices.Equal(other, wantCommon) || !slices.Equal(list, before) || !bytes.Equal(whole, behind) {
			t.Errorf("%d bytes: prefixes share memory, or a list was changed", size)
		}
		for k := range whole {
			whole[k] = 'x'
		}
		for k := range list {
			list[k] = 0
		}
		if !slices.Equal(second, wantSA) || !slices.Equal(other, wantCommon) {
			t.Errorf("%d bytes: an answer follows its list", size)
		}
	}
}
