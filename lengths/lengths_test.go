package lengths_test

import (
	"math"
	"math/rand"
	"slices"
	"testing"

	"folio/api"
	"folio/lengths"
)

const full = 1 << 15 // Kraft of a code with nothing left over

// plainKraft is what Kraft should answer: each length is halved down from the whole.
func plainKraft(lens []int) int64 {
	sum := int64(0)
	for _, n := range lens {
		for bits := 1; bits <= 15; bits++ {
			if n == bits {
				sum += full / int64(math.Pow(2, float64(bits)))
			}
		}
	}
	return sum
}

// plainCost is what Cost should answer, where the lengths are small.
func plainCost(freqs []int64, lens []int) int64 {
	sum := int64(0)
	for k, n := range lens {
		for range n {
			sum += freqs[k]
		}
	}
	return sum
}

// leastByTrial is the least cost of two symbols or more, found by trying all lengths up to most; freqs has no 0.
func leastByTrial(freqs []int64, most int) int64 {
	least := int64(math.MaxInt64)
	lens := make([]int, len(freqs))
	for k := range lens {
		lens[k] = 1
	}
	for {
		if plainKraft(lens) <= full {
			least = min(least, plainCost(freqs, lens))
		}
		k := 0
		for k < len(lens) && lens[k] == most {
			lens[k] = 1
			k++
		}
		if k == len(lens) {
			return least
		}
		lens[k]++
	}
}

// tree finds the least cost from the root down: at each depth it tries how many of the nodes there are symbols, the
// most frequent first, and doubles the others.
type tree struct {
	rest []int64 // of the k least frequent symbols, what they occur together
	seen []int64 // what was found already, by depth, nodes and symbols, and 1 more; 0: nothing
}

const never = math.MaxInt64 / 4

// least is the cost of the symbols that are left, with so many nodes at a depth to lay them below.
func (t *tree) least(depth, nodes, left int) int64 {
	if left == 0 {
		return 0
	}
	if depth == 15 {
		if nodes < left {
			return never
		}
		return 0
	}
	at := (depth*len(t.rest)+nodes)*len(t.rest) + left
	if t.seen[at] > 0 {
		return t.seen[at] - 1
	}
	cost := int64(never)
	for here := range min(nodes, left) + 1 {
		below := left - here
		cost = min(cost, t.rest[below]+t.least(depth+1, min(2*(nodes-here), below), below))
	}
	t.seen[at] = cost + 1
	return cost
}

// leastByTree is the least cost for any frequencies.
func leastByTree(freqs []int64) int64 {
	occur := slices.DeleteFunc(slices.Clone(freqs), func(f int64) bool { return f == 0 })
	switch len(occur) {
	case 0:
		return 0
	case 1:
		return occur[0]
	}
	slices.Sort(occur)
	rest := []int64{0}
	for k, f := range occur {
		rest = append(rest, rest[k]+f)
	}
	t := tree{rest, make([]int64, 15*len(rest)*len(rest))}
	return t.least(0, 1, len(occur))
}

// leastByHuffman is the least cost without a greatest length, and the greatest length it needs.
func leastByHuffman(freqs []int64) (cost int64, deepest int) {
	type node struct {
		weight int64
		depth  int
	}
	var nodes []node
	for _, f := range freqs {
		if f > 0 {
			nodes = append(nodes, node{f, 0})
		}
	}
	for len(nodes) > 1 {
		slices.SortFunc(nodes, func(a, b node) int {
			if a.weight != b.weight {
				return int(a.weight - b.weight)
			}
			return a.depth - b.depth
		})
		both := node{nodes[0].weight + nodes[1].weight, max(nodes[0].depth, nodes[1].depth) + 1}
		cost += both.weight
		nodes = append(nodes[2:], both)
		deepest = both.depth
	}
	return cost, deepest
}

// wantCode asks Of for lengths that are a code, and cost as much as told.
func wantCode(t *testing.T, freqs []int64, cost int64) []int {
	t.Helper()
	lens, err := lengths.Of(freqs)
	if err != api.OK || len(lens) != len(freqs) {
		t.Fatalf("Of(%v): %v, %d", freqs, lens, err)
	}
	occur := 0
	for k, f := range freqs {
		if f > 0 {
			occur++
		}
		if f == 0 && lens[k] != 0 || f > 0 && (lens[k] < 1 || lens[k] > 15) {
			t.Fatalf("Of(%v): %v: symbol %d", freqs, lens, k)
		}
	}
	kraft := int64(full)
	switch occur {
	case 0:
		kraft = 0
	case 1:
		kraft = full / 2
	}
	if got := plainKraft(lens); got != kraft {
		t.Fatalf("Of(%v): %v: Kraft is %d, not %d", freqs, lens, got, kraft)
	}
	if got := plainCost(freqs, lens); got != cost {
		t.Fatalf("Of(%v): %v: Cost is %d, not %d", freqs, lens, got, cost)
	}
	if lengths.Kraft(lens) != kraft || lengths.Cost(freqs, lens) != cost {
		t.Fatalf("Of(%v): %v: Kraft %d, Cost %d", freqs, lens, lengths.Kraft(lens), lengths.Cost(freqs, lens))
	}
	return lens
}

func wantErrRange(t *testing.T, freqs []int64) {
	t.Helper()
	if lens, err := lengths.Of(freqs); lens != nil || err != api.ErrRange {
		t.Errorf("Of(%d frequencies: %v): %v, %d", len(freqs), freqs, lens, err)
	}
}

func fibonacci(n int) []int64 {
	l := []int64{1, 1}
	for len(l) < n {
		l = append(l, min(l[len(l)-1]+l[len(l)-2], 1<<30))
	}
	return l[:n]
}

func powers(base float64, n int) []int64 {
	var l []int64
	for k := range n {
		l = append(l, int64(min(math.Pow(base, float64(k)), 1<<30)))
	}
	return l
}

// anyFreqs has frequencies of a kind that is chosen anew for each list: alike, wide apart, in steps, many of them 0.
func anyFreqs(r *rand.Rand, most int) []int64 {
	freqs := make([]int64, r.Intn(most+1))
	kind, few, steep := r.Intn(5), 1+r.Int63n(20), 1+r.Float64()
	for k := range freqs {
		switch kind {
		case 0:
			freqs[k] = r.Int63n(1<<30 + 1)
		case 1:
			freqs[k] = r.Int63n(few)
		case 2:
			freqs[k] = 1 << r.Intn(31)
		case 3:
			freqs[k] = int64(min(math.Pow(steep, float64(k)), 1<<30))
		case 4:
			freqs[k] = r.Int63n(1+1<<r.Intn(31)) * r.Int63n(2)
		}
	}
	r.Shuffle(len(freqs), func(i, j int) { freqs[i], freqs[j] = freqs[j], freqs[i] })
	return freqs
}

func TestP6_1Examples(t *testing.T) {
	for _, x := range []struct {
		freqs []int64
		cost  int64
	}{
		{[]int64{45, 13, 12, 16, 9, 5}, 224},
		{[]int64{0, 9}, 9},
		{[]int64{5, 5}, 10},
		{[]int64{1, 1 << 30}, 1<<30 + 1},
		{[]int64{1, 1, 1}, 5},
		{[]int64{1, 1, 2, 4}, 14},
		{[]int64{4, 2, 1, 1}, 14},
		{[]int64{1, 0, 1, 1, 1, 0}, 8},
		{[]int64{1 << 30, 1 << 30, 1 << 30, 1 << 30}, 8 << 30},
	} {
		wantCode(t, x.freqs, x.cost)
	}
	if lens, err := lengths.Of([]int64{0, 9}); !slices.Equal(lens, []int{0, 1}) || err != api.OK {
		t.Errorf("Of(0, 9): %v, %d", lens, err)
	}
	wantErrRange(t, []int64{1, -1})
}

func TestP6_1NoFrequencies(t *testing.T) {
	for _, freqs := range [][]int64{nil, {}, make([]int64, 0, 9), []int64{1, -1, 1 << 40}[:0]} {
		if lens, err := lengths.Of(freqs); len(lens) != 0 || err != api.OK {
			t.Errorf("Of: %v, %d", lens, err)
		}
	}
}

func TestP6_1NoSymbolOccurs(t *testing.T) {
	for n := range 301 {
		wantCode(t, make([]int64, n), 0)
	}
}

func TestP6_1OneSymbolOccurs(t *testing.T) {
	for _, n := range []int{1, 2, 3, 258, 299, 300} {
		for k := range n {
			for _, f := range []int64{1, 2, 9, 1 << 30} {
				freqs := make([]int64, n)
				freqs[k] = f
				wantCode(t, freqs, f)
			}
		}
	}
}

func TestP6_1TwoSymbolsOccur(t *testing.T) {
	for _, n := range []int{2, 3, 7, 300} {
		for k := range n - 1 {
			for _, f := range []int64{1, 2, 1 << 29, 1 << 30} {
				freqs := make([]int64, n)
				freqs[k], freqs[n-1] = f, 3
				wantCode(t, freqs, f+3)
			}
		}
	}
}

func TestP6_1EachShortListOfSmallFrequencies(t *testing.T) {
	lists := [][]int64{nil}
	for k := 0; len(lists) < 20_000; k++ {
		for f := range int64(6) {
			lists = append(lists, append(slices.Clone(lists[k]), f))
		}
	}
	for _, freqs := range lists {
		wantCode(t, freqs, leastByTree(freqs))
	}
}

// The ways to find the least cost are held against one another first, because most tests hang on them.
func TestP6_1AllLengthsOfFewSymbols(t *testing.T) {
	r := rand.New(rand.NewSource(1))
	for range 60 {
		freqs := make([]int64, 2+r.Intn(4))
		for k := range freqs {
			freqs[k] = 1 + r.Int63n(1<<r.Intn(30))
		}
		least := leastByTrial(freqs, 6)
		huffman, _ := leastByHuffman(freqs)
		if tree := leastByTree(freqs); tree != least || huffman != least {
			t.Fatalf("%v: %d by trial, %d by tree, %d by Huffman", freqs, least, tree, huffman)
		}
		wantCode(t, freqs, least)
	}
}

func TestP6_1AnyFrequencies(t *testing.T) {
	r := rand.New(rand.NewSource(2))
	for range 1_500 {
		freqs := anyFreqs(r, 45)
		wantCode(t, freqs, leastByTree(freqs))
	}
}

func TestP6_1ManySymbols(t *testing.T) {
	r := rand.New(rand.NewSource(3))
	free, bound := 0, 0
	for range 600 {
		freqs := anyFreqs(r, 300)
		least, deepest := leastByHuffman(freqs)
		if deepest > 15 {
			bound++
			continue
		}
		free++
		if deepest > 0 {
			wantCode(t, freqs, least)
		}
	}
	if free < 100 || bound < 100 {
		t.Errorf("%d lists within the greatest length, %d beyond", free, bound)
	}
}

func TestP6_1ManySymbolsBeyondTheGreatestLength(t *testing.T) {
	r := rand.New(rand.NewSource(4))
	shuffled := func(l []int64) []int64 {
		r.Shuffle(len(l), func(i, j int) { l[i], l[j] = l[j], l[i] })
		return l
	}
	for _, freqs := range [][]int64{
		fibonacci(300),
		shuffled(fibonacci(300)),
		shuffled(powers(1.1, 300)),
		shuffled(append(slices.Repeat([]int64{1}, 270), powers(2, 30)...)),
		shuffled(append(fibonacci(44), make([]int64, 256)...)),
	} {
		if _, deepest := leastByHuffman(freqs); deepest <= 15 {
			t.Errorf("%v: only %d deep", freqs, deepest)
		}
		wantCode(t, freqs, leastByTree(freqs))
	}
}

// One more symbol is one bit more, up to the greatest length; then the code gets wider.
func TestP6_1AtTheGreatestLength(t *testing.T) {
	for n := 2; n <= 60; n++ {
		for _, freqs := range [][]int64{fibonacci(n), powers(2, n), powers(3, n), powers(1.5, n)} {
			lens := wantCode(t, freqs, leastByTree(freqs))
			least, deepest := leastByHuffman(freqs)
			if deepest <= 15 && plainCost(freqs, lens) != least {
				t.Errorf("Of(%v): %v: limited without need", freqs, lens)
			}
			if deepest > 15 && plainCost(freqs, lens) < least {
				t.Errorf("Of(%v): %v: below the least", freqs, lens)
			}
		}
	}
	lens := wantCode(t, powers(2, 16), leastByTree(powers(2, 16)))
	if want := []int{15, 15, 14, 13, 12, 11, 10, 9, 8, 7, 6, 5, 4, 3, 2, 1}; !slices.Equal(lens, want) {
		t.Errorf("Of sixteen powers of two: %v", lens)
	}
	lens = wantCode(t, powers(2, 17), leastByTree(powers(2, 17)))
	if want := []int{15, 15, 15, 15, 13, 12, 11, 10, 9, 8, 7, 6, 5, 4, 3, 2, 1}; !slices.Equal(lens, want) {
		t.Errorf("Of seventeen powers of two: %v", lens)
	}
}

func TestP6_1AllAlike(t *testing.T) {
	for n := 2; n <= 300; n++ {
		for _, f := range []int64{1, 7, 1 << 30} {
			short := 0 // the greatest power of two up to n, as an exponent
			for 2<<short <= n {
				short++
			}
			long := 2 * (n - 1<<short) // symbols with one bit more
			wantCode(t, slices.Repeat([]int64{f}, n), f*int64(n*short+long))
		}
	}
}

// A symbol that is more frequent than another has no longer code.
func TestP6_1LongerIsRarer(t *testing.T) {
	r := rand.New(rand.NewSource(5))
	for range 300 {
		freqs := anyFreqs(r, 300)
		lens, err := lengths.Of(freqs)
		if err != api.OK {
			t.Fatalf("Of(%v): %d", freqs, err)
		}
		for i, f := range freqs {
			for j, g := range freqs {
				if f > g && g > 0 && lens[i] > lens[j] {
					t.Fatalf("Of(%v): %v: symbols %d and %d", freqs, lens, i, j)
				}
			}
		}
	}
}

func TestP6_1NumberOfFrequencies(t *testing.T) {
	for _, f := range []int64{0, 1, 1 << 30} {
		for _, n := range []int{301, 302, 600, 1 << 16} {
			wantErrRange(t, slices.Repeat([]int64{f}, n))
		}
	}
	wantErrRange(t, slices.Repeat([]int64{-1}, 301))
	if lens, err := lengths.Of(make([]int64, 300, 400)); len(lens) != 300 || err != api.OK {
		t.Errorf("Of 300 frequencies: %d lengths, %d", len(lens), err)
	}
}

func TestP6_1FrequenciesOutOfRange(t *testing.T) {
	for _, f := range []int64{math.MinInt64, math.MinInt64 + 1, -1 << 32, -1 << 30, -2, -1, 1<<30 + 1, 1 << 31, 1 << 32, 1<<32 + 1, math.MaxInt64 - 1, math.MaxInt64} {
		wantErrRange(t, []int64{f})
		wantErrRange(t, []int64{f, f})
		wantErrRange(t, []int64{f, -f})
		for _, n := range []int{2, 5, 300} {
			for k := range n {
				for _, others := range []int64{0, 1, 1 << 30} {
					freqs := slices.Repeat([]int64{others}, n)
					freqs[k] = f
					wantErrRange(t, freqs)
				}
			}
		}
	}
	wantCode(t, []int64{1 << 30}, 1<<30)
	wantCode(t, []int64{1 << 30, 0, 1<<30 - 1}, 1<<31-1)
}

func TestP6_1Kraft(t *testing.T) {
	for _, x := range []struct {
		lens []int
		want int64
	}{
		{[]int{0, 1, 15, 16, -1, 2}, 1<<14 + 1 + 1<<13},
		{nil, 0},
		{[]int{}, 0},
		{[]int{0}, 0},
		{[]int{0, 0, 0}, 0},
		{[]int{1, 1}, full},
		{[]int{1, 1, 1}, 3 << 14},
		{[]int{15}, 1},
		{[]int{2, 0, 1, 3, 3}, full},
		{slices.Repeat([]int{15}, full), full},
		{slices.Repeat([]int{1}, 1<<20), 1 << 34},
	} {
		if got := lengths.Kraft(x.lens); got != x.want {
			t.Errorf("Kraft of %d lengths: %d, not %d", len(x.lens), got, x.want)
		}
	}
	for n := -300; n <= 300; n++ {
		want := int64(0)
		if n >= 1 && n <= 15 {
			want = int64(full >> n)
		}
		if got := lengths.Kraft([]int{n}); got != want {
			t.Errorf("Kraft(%d): %d, not %d", n, got, want)
		}
		if got := lengths.Kraft([]int{n, 3, n}); got != 2*want+1<<12 {
			t.Errorf("Kraft(%d, 3, %d): %d, not %d", n, n, got, 2*want+1<<12)
		}
	}
}

func TestP6_1KraftOfLengthsThatAreNone(t *testing.T) {
	for _, n := range []int{math.MinInt, math.MinInt + 1, -1<<32 + 1, -64, -49, -1, 0, 16, 17, 63, 64, 65, 79, 257, 1 << 32, 1<<32 + 1, math.MaxInt - 1, math.MaxInt} {
		if got := lengths.Kraft([]int{n}); got != 0 {
			t.Errorf("Kraft(%d): %d", n, got)
		}
		if got := lengths.Kraft([]int{n, 15, n, 1}); got != 1+1<<14 {
			t.Errorf("Kraft(%d, 15, %d, 1): %d", n, n, got)
		}
	}
}

func TestP6_1AnyKraft(t *testing.T) {
	r := rand.New(rand.NewSource(6))
	for range 2_000 {
		lens := make([]int, r.Intn(400))
		for k := range lens {
			lens[k] = r.Intn(20) - 2
		}
		if got, want := lengths.Kraft(lens), plainKraft(lens); got != want {
			t.Fatalf("Kraft(%v): %d, not %d", lens, got, want)
		}
	}
}

func TestP6_1Cost(t *testing.T) {
	for _, x := range []struct {
		freqs []int64
		lens  []int
		want  int64
	}{
		{[]int64{3, 4, 5}, []int{2, 1}, 10},
		{[]int64{3, 4}, []int{2, 1, 9}, 10},
		{[]int64{3, 4, 5}, []int{2, 1, 9}, 55},
		{nil, nil, 0},
		{[]int64{}, []int{}, 0},
		{nil, []int{1, 2}, 0},
		{[]int64{1, 2}, nil, 0},
		{[]int64{7}, []int{0}, 0},
		{[]int64{0}, []int{7}, 0},
		{[]int64{3, 4, 5}[:1], []int{2, 1}, 6},
		{[]int64{3, 4}, []int{2, 1}[:1], 6},
		{[]int64{-3, 4}, []int{2, -1}, -10},
		{[]int64{-3, -4}, []int{-2, -1}, 10},
		{[]int64{2, 2, 2, 2}, []int{0, 16, 100, -1}, 230},
		{[]int64{1 << 30, 1 << 30}, []int{15, 15}, 30 << 30},
		{[]int64{1 << 40}, []int{1 << 20}, 1 << 60},
		{[]int64{1 << 20}, []int{1 << 40}, 1 << 60},
		{[]int64{math.MaxInt64, 5}, []int{1, 0}, math.MaxInt64},
		{[]int64{1, 5}, []int{math.MaxInt, 0}, math.MaxInt64},
		{[]int64{1, math.MinInt64}, []int{0, 1}, math.MinInt64},
		{[]int64{math.MaxInt64, math.MinInt64}, []int{1, 1}, -1},
		{slices.Repeat([]int64{1 << 30}, 1<<16), slices.Repeat([]int{15}, 1<<16), 15 << 46},
	} {
		if got := lengths.Cost(x.freqs, x.lens); got != x.want {
			t.Errorf("Cost of %d frequencies and %d lengths: %d, not %d", len(x.freqs), len(x.lens), got, x.want)
		}
	}
}

func TestP6_1AnyCost(t *testing.T) {
	r := rand.New(rand.NewSource(7))
	for range 2_000 {
		freqs := make([]int64, r.Intn(400))
		for k := range freqs {
			freqs[k] = r.Int63n(1 << r.Intn(40))
		}
		lens := make([]int, len(freqs))
		for k := range lens {
			lens[k] = r.Intn(30)
		}
		want := plainCost(freqs, lens)
		if got := lengths.Cost(freqs, lens); got != want {
			t.Fatalf("Cost(%v, %v): %d, not %d", freqs, lens, got, want)
		}
		if got := lengths.Cost(append(freqs, 5, 6), append(lens, 0)); got != want {
			t.Fatalf("Cost(%v, %v): %d with more frequencies, not %d", freqs, lens, got, want)
		}
		if got := lengths.Cost(append(freqs, 0), append(lens, 5, 6)); got != want {
			t.Fatalf("Cost(%v, %v): %d with more lengths, not %d", freqs, lens, got, want)
		}
	}
}

// Nothing stops for numbers beyond what the sum can hold: P0.1.
func TestP6_1CostOfHugeNumbers(t *testing.T) {
	huge := []int64{math.MinInt64, math.MaxInt64, -1, math.MinInt64, math.MaxInt64}
	lens := []int{math.MinInt, math.MaxInt, math.MinInt, -1, math.MinInt}
	for n := range len(huge) + 1 {
		first := lengths.Cost(huge[:n], lens)
		if second := lengths.Cost(huge, lens[:n]); first != second {
			t.Errorf("%d of each: %d and %d", n, first, second)
		}
	}
}

// The same frequencies get the same lengths, whatever was asked before: P0.5.
func TestP6_1CallsAreApart(t *testing.T) {
	r := rand.New(rand.NewSource(8))
	for range 200 {
		freqs := anyFreqs(r, 300)
		first, _ := lengths.Of(freqs)
		lengths.Of(anyFreqs(r, 300))
		lengths.Of([]int64{-1})
		second, err := lengths.Of(slices.Clone(freqs))
		if !slices.Equal(first, second) || err != api.OK {
			t.Fatalf("Of(%v): %v, and then %v", freqs, first, second)
		}
	}
}

// The answers are new memory, and the lists are left alone with what lies behind them: P0.3.
func TestP6_1SharesNothing(t *testing.T) {
	behind := []int64{9, 0, 3, 3, 1, 40, 2, 77, -78, 1 << 40}
	for size := range 8 {
		whole := slices.Clone(behind)
		freqs := whole[:size]
		want, _ := lengths.Of(slices.Clone(freqs))
		first, _ := lengths.Of(freqs)
		second, _ := lengths.Of(freqs)
		first = first[:cap(first)]
		for k := range first {
			first[k] = -7
		}
		if third, _ := lengths.Of(freqs); !slices.Equal(second, want) || !slices.Equal(third, want) {
			t.Errorf("%d frequencies: two answers share memory", size)
		}
		lens := slices.Clone(second)
		lengths.Kraft(lens)
		lengths.Cost(freqs, lens)
		if !slices.Equal(whole, behind) || !slices.Equal(lens, want) {
			t.Errorf("%d frequencies: a list was changed: %v, %v", size, whole, lens)
		}
		for k := range whole {
			whole[k] = 5
		}
		if !slices.Equal(second, want) {
			t.Errorf("%d frequencies: the answer follows its list", size)
		}
	}
}
