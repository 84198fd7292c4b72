package score_test

import (
	"cmp"
	"math"
	"math/big"
	"math/rand"
	"slices"
	"strconv"
	"testing"

	"folio/score"
)

const (
	oneNaN  = 0x7ff8000000000001
	negZero = 1 << 63
	least   = math.SmallestNonzeroFloat64
	most    = math.MaxFloat64
)

var (
	inf   = math.Inf(1)
	nan   = math.NaN()
	minus = math.Copysign(0, -1)
)

// wantFloat takes all NaNs for one, and tells +0 from -0.
func wantFloat(t *testing.T, what string, got, want float64) {
	t.Helper()
	if math.IsNaN(got) && math.IsNaN(want) {
		return
	}
	if math.Float64bits(got) != math.Float64bits(want) {
		t.Errorf("%s: %v, not %v", what, got, want)
	}
}

func nans() []float64 {
	var all []float64
	for _, bits := range []uint64{
		0x7ff8000000000000, oneNaN, 0x7ff8000000000002, 0x7ff0000000000001, 0x7fffffffffffffff,
		0xfff8000000000000, 0xfff8000000000001, 0xfff0000000000001, 0xfff4000000000000, 0xffffffffffffffff,
	} {
		all = append(all, math.Float64frombits(bits))
	}
	return all
}

// ascending gives numbers as Less should order them; no two are equal.
func ascending() []float64 {
	return []float64{
		-inf, -most, -1e300, -1 << 53, -2, math.Nextafter(-1, -2), -1, math.Nextafter(-1, 0), -0.5,
		-2.2250738585072014e-308, -2 * least, -least, minus,
		0, least, 2 * least, 2.2250738585072014e-308, 0.5,
		math.Nextafter(1, 0), 1, math.Nextafter(1, 2), 2, 1 << 53, 1e300, most, inf,
	}
}

// anyFloat gives often a special number, or one near another, and else any bits.
func anyFloat(r *rand.Rand) float64 {
	switch r.Intn(6) {
	case 0:
		return ascending()[r.Intn(len(ascending()))]
	case 1:
		return nans()[r.Intn(len(nans()))]
	case 2:
		return float64(r.Intn(7) - 3)
	case 3:
		return r.NormFloat64()
	default:
		return math.Float64frombits(r.Uint64())
	}
}

func anyInt(r *rand.Rand) int {
	switch r.Intn(4) {
	case 0:
		return r.Intn(7) - 3
	case 1:
		edges := []int{math.MinInt, math.MinInt + 1, math.MaxInt, math.MaxInt - 1, 1<<53 + 1, -1<<53 - 1, 1<<62 + 1}
		return edges[r.Intn(len(edges))]
	case 2:
		return int(r.Uint64())
	default:
		return r.Intn(10_000)
	}
}

// rank gives the place of a number in the order, from its bits alone: the NaNs first.
func rank(f float64) uint64 {
	bits := math.Float64bits(f)
	switch {
	case bits<<1 > 0x7ff<<53:
		return 0
	case bits>>63 == 1:
		return ^bits
	}
	return bits | 1<<63
}

func TestP12_1Ratio(t *testing.T) {
	for _, x := range []struct {
		dead, all int
		want      float64
	}{
		{1, 4, 0.25}, {3, 0, inf}, {-3, 0, -inf}, {0, -2, minus}, {0, 0, nan},
		{0, 2, 0}, {4, 4, 1}, {5, 4, 1.25}, {-1, 4, -0.25}, {1, -4, -0.25}, {-1, -4, 0.25}, {1, 3, 1.0 / 3},
		{1, 0, inf}, {math.MaxInt, 0, inf}, {-1, 0, -inf}, {math.MinInt, 0, -inf},
		{0, math.MaxInt, 0}, {0, math.MinInt, minus}, {0, -1, minus},
		{math.MinInt, -1, 1 << 63}, {math.MinInt, math.MinInt, 1}, {math.MaxInt, 1, 1 << 63},
		{math.MaxInt, math.MinInt, -1}, {math.MaxInt, math.MaxInt - 1, 1}, {1, math.MinInt, -1.0 / (1 << 63)},
		{1<<53 + 1, 1, 1 << 53}, {1<<53 + 3, 1, 1<<53 + 4}, {-1<<53 - 1, 1, -1 << 53}, {1<<53 + 1, 1 << 53, 1},
	} {
		what := "Ratio(" + strconv.Itoa(x.dead) + ", " + strconv.Itoa(x.all) + ")"
		wantFloat(t, what, score.Ratio(x.dead, x.all), x.want)
	}
}

// TestP12_1RatioRounds asks for the nearest number to the quotient of the nearest numbers.
func TestP12_1RatioRounds(t *testing.T) {
	r := rand.New(rand.NewSource(1))
	for range 20_000 {
		dead, all := anyInt(r), anyInt(r)
		if dead == 0 || all == 0 {
			continue
		}
		a := new(big.Float).SetPrec(53).SetInt64(int64(dead))
		b := new(big.Float).SetPrec(53).SetInt64(int64(all))
		want, _ := a.Quo(a, b).Float64()
		if got := score.Ratio(dead, all); got != want {
			t.Fatalf("Ratio(%d, %d): %v, not %v", dead, all, got, want)
		}
	}
}

func TestP12_1Gain(t *testing.T) {
	for _, x := range []struct {
		dead, all   int
		age, weight float64
		want        float64
	}{
		{1, 4, 3, 2, 0.25*4 - 2*0.75}, {0, 0, 1, 1, nan},
		{0, 4, 3, 2, -2}, {4, 4, 3, 2, 4}, {1, 4, 0, 0, 0.25}, {1, 2, -1, 1, -0.5}, {1, 4, -3, -2, 1},
		{3, 2, 1, 1, 3.5}, {-1, 2, 1, 1, -2.5}, {1, -2, 1, 1, -2.5}, {1, 2, 1, -1, 1.5},
		// A ratio by 0.
		{3, 0, 1, 1, inf}, {-3, 0, 1, 1, -inf}, {3, 0, -2, 1, nan}, {3, 0, 1, -1, nan}, {3, 0, -1, 1, nan}, {3, 0, 1, 0, nan},
		// Infinities and NaNs that come in.
		{1, 2, inf, 1, inf}, {1, 2, -inf, 1, -inf}, {0, 2, inf, 1, nan}, {1, 2, 1, inf, -inf}, {1, 1, 1, inf, nan},
		{1, 2, inf, inf, nan}, {2, 1, inf, inf, inf}, {2, 1, 1, inf, inf},
		{1, 2, nan, 1, nan}, {1, 2, 1, nan, nan}, {0, 2, nan, 0, nan}, {1, 1, 0, nan, nan},
		// A product or the difference is too great: also where the whole would not be, as in the first.
		{2, 1, most, -most, inf}, {2, 1, most, -inf, nan}, {2, 1, most, 1, inf}, {3, 1, 1, most, inf}, {-1, 1, 1, most, -inf},
		{3, 2, most / 2, most, inf}, {1, 1, most, 1, most}, {1, 2, most, -most, most},
		// Zeros have the sign that the operations give them.
		{0, -2, 0, 0, minus}, {0, 2, 0, 0, 0}, {0, -2, 0, minus, 0}, {0, 2, 0, minus, 0}, {0, 2, -2, 0, minus},
		{0, -2, -2, 0, 0}, {1, 2, -1, 0, 0}, {1, 1, -1, 1, 0}, {1, 1, 0, -1, 1},
		// What is small is lost in the operation that meets it first.
		{1, 1, 0x1p-53, 0, 1}, {1, 1, 0x1p53, 0, 0x1p53}, {3, 1, 0x1p53, 0, 3 * 0x1p53}, {1, 1, least, 0, 1},
		{1, 1 << 60, 0, 1, -1}, {1, 1 << 60, 0, -1, 1}, {1, 2, -1, least, 0},
	} {
		what := "Gain(" + strconv.Itoa(x.dead) + ", " + strconv.Itoa(x.all) + ")"
		wantFloat(t, what, score.Gain(x.dead, x.all, x.age, x.weight), x.want)
	}
}

// plainGain rounds each operation to 53 bits by itself.
func plainGain(dead, all int, age, weight float64) float64 {
	of := func(f float64) *big.Float { return new(big.Float).SetPrec(53).SetFloat64(f) }
	zero, one := of(0), of(1)
	r := new(big.Float).Quo(of(float64(dead)), of(float64(all)))
	gain := new(big.Float).Mul(r, new(big.Float).Add(one, of(age)))
	loss := new(big.Float).Mul(of(weight), new(big.Float).Sub(one, r))
	f, _ := zero.Sub(gain, loss).Float64()
	return f
}

// TestP12_1GainRounds also counts how often an answer of one rounding less would be seen, in either product.
func TestP12_1GainRounds(t *testing.T) {
	r := rand.New(rand.NewSource(2))
	first, second := 0, 0
	for range 20_000 {
		dead, all := r.Intn(20_000)-5000, r.Intn(10_000)+1
		if r.Intn(8) == 0 {
			dead, all = int(r.Uint64()), int(r.Uint64()|1)
		}
		age, weight := 10*r.NormFloat64(), r.NormFloat64()
		want := plainGain(dead, all, age, weight)
		if got := score.Gain(dead, all, age, weight); got != want {
			t.Fatalf("Gain(%d, %d, %v, %v): %v, not %v", dead, all, age, weight, got, want)
		}
		ratio := score.Ratio(dead, all)
		if math.FMA(ratio, 1+age, -float64(weight*(1-ratio))) != want {
			first++
		}
		if math.FMA(-weight, 1-ratio, float64(ratio*(1+age))) != want {
			second++
		}
	}
	if first < 1000 || second < 1000 {
		t.Errorf("%d and %d of the inputs tell how it is rounded", first, second)
	}
}

func TestP12_1Less(t *testing.T) {
	l := append(nans(), ascending()...)
	for i, a := range l {
		for j, b := range l {
			want := i < j && j >= len(nans())
			if score.Less(a, b) != want {
				t.Errorf("Less(%v, %v): not %v", a, b, want)
			}
		}
	}
}

func TestP12_1LessOfAny(t *testing.T) {
	r := rand.New(rand.NewSource(3))
	for range 100_000 {
		a, b := anyFloat(r), anyFloat(r)
		if want := rank(a) < rank(b); score.Less(a, b) != want {
			t.Fatalf("Less(%x, %x): not %v", math.Float64bits(a), math.Float64bits(b), want)
		}
	}
}

func TestP12_1LessSorts(t *testing.T) {
	r := rand.New(rand.NewSource(4))
	want := append([]float64{nan, nan}, ascending()...)
	for range 100 {
		l := slices.Clone(want)
		r.Shuffle(len(l), func(i, j int) { l[i], l[j] = l[j], l[i] })
		slices.SortFunc(l, func(a, b float64) int {
			switch {
			case score.Less(a, b):
				return -1
			case score.Less(b, a):
				return 1
			}
			return 0
		})
		for k := range l {
			wantFloat(t, "sorted", l[k], want[k])
		}
	}
}

func TestP12_1Best(t *testing.T) {
	for _, x := range []struct {
		l    []float64
		want int
	}{
		{[]float64{minus, 1, inf, inf, nan}, 2}, {[]float64{nan, 0, 0}, 1}, {[]float64{nan, -1, minus, -inf}, -1},
		{nil, -1}, {[]float64{}, -1}, {nans(), -1}, {[]float64{nan}, -1}, {[]float64{minus}, -1}, {[]float64{-least}, -1},
		{[]float64{0}, 0}, {[]float64{least}, 0}, {[]float64{inf}, 0}, {[]float64{minus, 0}, 1}, {[]float64{0, minus}, 0},
		{[]float64{0, least}, 1}, {[]float64{least, 0}, 0}, {[]float64{1, 2, 3}, 2}, {[]float64{3, 2, 1}, 0}, {[]float64{1, 3, 2, 3}, 1},
		{[]float64{-5, 1, -9}, 1}, {[]float64{1, nan, 2, nan}, 2}, {[]float64{most, inf, most}, 1}, {[]float64{inf, nan, inf}, 0},
		{[]float64{1, math.Nextafter(1, 2), 1}, 1}, {ascending(), len(ascending()) - 1},
	} {
		if got := score.Best(x.l); got != x.want {
			t.Errorf("Best of %v: %d, not %d", x.l, got, x.want)
		}
	}
}

// plainBest is what Best should answer: no element before the index is as great, and none after it greater.
func plainBest(l []float64) int {
	type place struct {
		index int
		rank  uint64
	}
	var places []place
	for k, f := range l {
		if rank(f) >= negZero {
			places = append(places, place{k, rank(f)})
		}
	}
	if len(places) == 0 {
		return -1
	}
	slices.SortStableFunc(places, func(a, b place) int { return cmp.Compare(b.rank, a.rank) })
	return places[0].index
}

func TestP12_1BestOfAny(t *testing.T) {
	r := rand.New(rand.NewSource(5))
	for n := range 3000 {
		l := make([]float64, n%40, n%40+3)
		for k := range l {
			l[k] = anyFloat(r)
		}
		spare := l[:cap(l)]
		spare[len(l)] = inf // is not in the list
		before := slices.Clone(spare)
		if got, want := score.Best(l), plainBest(l); got != want {
			t.Fatalf("Best of %v: %d, not %d", l, got, want)
		}
		for k := range before {
			if math.Float64bits(spare[k]) != math.Float64bits(before[k]) {
				t.Fatalf("Best changed its list at %d", k)
			}
		}
	}
}

func TestP12_1BestOfMany(t *testing.T) {
	l := make([]float64, 1_000_000)
	for k := range l {
		l[k] = float64(k % 999_983)
	}
	if got := score.Best(l); got != 999_982 {
		t.Errorf("%d", got)
	}
}

func TestP12_1Bits(t *testing.T) {
	for _, x := range []struct {
		f    float64
		want uint64
	}{
		{1, 0x3ff0000000000000}, {minus, negZero}, {0, 0}, {-1, 0xbff0000000000000}, {0.1, 0x3fb999999999999a},
		{inf, 0x7ff0000000000000}, {-inf, 0xfff0000000000000}, {least, 1}, {-least, negZero + 1}, {most, 0x7fefffffffffffff},
	} {
		if got := score.Bits(x.f); got != x.want {
			t.Errorf("Bits(%v): %x, not %x", x.f, got, x.want)
		}
	}
	for _, f := range append(nans(), score.Ratio(0, 0), score.Gain(1, 1, 1, inf), score.Gain(3, 0, 1, -1)) {
		if got := score.Bits(f); got != oneNaN {
			t.Errorf("Bits of a NaN: %x", got)
		}
	}
}

func TestP12_1BitsOfAny(t *testing.T) {
	r := rand.New(rand.NewSource(6))
	for range 100_000 {
		bits := r.Uint64()
		want := bits
		if rank(math.Float64frombits(bits)) == 0 {
			want = oneNaN
		}
		if got := score.Bits(math.Float64frombits(bits)); got != want {
			t.Fatalf("Bits: %x, not %x", got, want)
		}
	}
}

// TestP12_1Any asks for what holds whatever comes in: the same answer again, and NaN where one comes in.
func TestP12_1Any(t *testing.T) {
	r := rand.New(rand.NewSource(7))
	for range 100_000 {
		dead, all, age, weight := anyInt(r), anyInt(r), anyFloat(r), anyFloat(r)
		wantFloat(t, "Ratio again", score.Ratio(dead, all), score.Ratio(dead, all))
		got := score.Gain(dead, all, age, weight)
		wantFloat(t, "Gain again", got, score.Gain(dead, all, age, weight))
		if (dead == 0 && all == 0 || age != age || weight != weight) && got == got {
			t.Fatalf("Gain(%d, %d, %v, %v): %v", dead, all, age, weight, got)
		}
	}
}
