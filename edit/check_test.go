package edit_test

import (
	"math"
	"math/rand"
	"slices"
	"testing"

	"folio/api"
)

// tried are numbers at the bounds that the chapter names, and far beyond them. 1 << 32 and more than that are such as a
// narrower kind of number would take for a lower one.
func tried() []int64 {
	l := []int64{math.MinInt64, math.MinInt64 + 1, -1 << 50, -1 << 32, math.MaxInt64 - 1, math.MaxInt64}
	for n := int64(-5); n <= 5; n++ {
		l = append(l, n, 1<<8+n, 1<<16+n, 1<<22+n, 1<<32+n, 1<<50+n)
	}
	return l
}

// wantBounds puts each of the numbers tried into a full edit, at the place that set tells, and asks whether it is valid just
// from least to greatest.
func wantBounds(t *testing.T, name string, least, greatest int64, set func(e *api.Edit, n int64)) {
	t.Helper()
	for _, n := range tried() {
		e := full()
		set(&e, n)
		want := api.ErrForm
		if inRange(n, least, greatest) {
			want = api.OK
		}
		if plainCheck(e) != want {
			t.Fatalf("%s %d: the test is wrong", name, n)
		}
		wantCheck(t, e, want)
	}
}

func TestP18_1CheckExamples(t *testing.T) {
	wantCheck(t, api.Edit{}, api.OK)
	wantCheck(t, api.Edit{Next: -1}, api.ErrForm)
	wantCheck(t, api.Edit{Adds: slices.Repeat([]api.Seg{seg(1)}, 61)}, api.ErrForm)
	wantCheck(t, api.Edit{Dels: []int64{0}}, api.ErrForm)
	wantCheck(t, api.Edit{Pars: []api.Par{par(1, 5, 2, 5)}}, api.ErrForm)
	wantCheck(t, full(), api.OK)
}

func TestP18_1CheckCounters(t *testing.T) {
	wantBounds(t, "Next", 0, mostNum, func(e *api.Edit, n int64) { e.Next = n })
	wantBounds(t, "Seq", 0, mostNum, func(e *api.Edit, n int64) { e.Seq = n })
}

func TestP18_1CheckAdds(t *testing.T) {
	for k := range full().Adds {
		wantBounds(t, "Num", 1, mostNum, func(e *api.Edit, n int64) { e.Adds[k].Num = n })
		wantBounds(t, "Group", 0, mostNum, func(e *api.Edit, n int64) { e.Adds[k].Group = n })
		wantBounds(t, "Member", 0, 3, func(e *api.Edit, n int64) { e.Adds[k].Member = int(n) })
		wantBounds(t, "Size", 0, mostSize, func(e *api.Edit, n int64) { e.Adds[k].Size = int(n) })
	}
	for _, sum := range []uint32{0, 1, 255, 256, 1 << 16, 1 << 31, mostSum - 1, mostSum} {
		for _, sealed := range []bool{false, true} {
			wantCheck(t, api.Edit{Adds: []api.Seg{{Num: 1, Sealed: sealed, Sum: sum}}}, api.OK)
		}
	}
	wantCheck(t, api.Edit{Adds: []api.Seg{{}}}, api.ErrForm)
	wantCheck(t, api.Edit{Adds: []api.Seg{seg(1), {}}}, api.ErrForm)
}

func TestP18_1CheckDelsAndDrops(t *testing.T) {
	for k := range full().Dels {
		wantBounds(t, "Dels", 1, mostNum, func(e *api.Edit, n int64) { e.Dels[k] = n })
	}
	for k := range full().Drops {
		wantBounds(t, "Drops", 1, mostNum, func(e *api.Edit, n int64) { e.Drops[k] = n })
	}
}

func TestP18_1CheckPars(t *testing.T) {
	for i, p := range full().Pars {
		wantBounds(t, "Group", 1, mostNum, func(e *api.Edit, n int64) { e.Pars[i].Group = n })
		wantBounds(t, "Size", 0, mostSize, func(e *api.Edit, n int64) { e.Pars[i].Size = int(n) })
		for k := range p.Nums {
			wantBounds(t, "Sizes", 0, mostSize, func(e *api.Edit, n int64) { e.Pars[i].Sizes[k] = int(n) })
			wantBounds(t, "Nums", 1, mostNum, func(e *api.Edit, n int64) {
				e.Pars[i].Nums = []int64{1001, 1002, 1003}[:len(p.Nums)]
				e.Pars[i].Nums[k] = n
			})
		}
	}
	for _, sum := range []uint32{0, 1, 1 << 31, mostSum} {
		wantCheck(t, api.Edit{Pars: []api.Par{{Group: 1, Nums: []int64{1}, Sizes: []int{0}, Sum: sum}}}, api.OK)
	}
	wantCheck(t, api.Edit{Pars: []api.Par{{}}}, api.ErrForm)
	wantCheck(t, api.Edit{Pars: []api.Par{par(1, 1), {}}}, api.ErrForm)
}

func TestP18_1CheckNumbersOfMembers(t *testing.T) {
	for nums := range 7 {
		for sizes := range 7 {
			p := api.Par{Group: 1, Sizes: make([]int, sizes)}
			for n := range nums {
				p.Nums = append(p.Nums, int64(n+1))
			}
			want := api.ErrForm
			if nums == sizes && nums >= 1 && nums <= 3 {
				want = api.OK
			}
			wantCheck(t, api.Edit{Pars: []api.Par{p}}, want)
			wantCheck(t, api.Edit{Pars: []api.Par{par(9, 9), p, par(8, 8)}}, want)
		}
	}
	for _, count := range []int{4, 256 + 1, 256 + 3, 1 << 16, 1<<16 + 1} {
		wantCheck(t, api.Edit{Pars: []api.Par{{Group: 1, Nums: slices.Repeat([]int64{1}, count), Sizes: make([]int, count)}}}, api.ErrForm)
		wantCheck(t, api.Edit{Pars: []api.Par{{Group: 1, Nums: []int64{1}, Sizes: make([]int, count)}}}, api.ErrForm)
	}
}

func TestP18_1CheckDistinctMembers(t *testing.T) {
	values := []int64{1, 2, 3, mostNum}
	for _, a := range values {
		wantCheck(t, api.Edit{Pars: []api.Par{par(1, a)}}, api.OK)
		for _, b := range values {
			two := api.Edit{Pars: []api.Par{par(1, a, b)}}
			wantCheck(t, two, plainCheck(two))
			for _, c := range values {
				three := api.Edit{Pars: []api.Par{par(1, a, b, c)}}
				wantCheck(t, three, plainCheck(three))
			}
		}
	}
}

// What needs the manifest to be judged, and what no condition names, is no fault of an edit.
func TestP18_1CheckNamesNoOtherConditions(t *testing.T) {
	for _, e := range []api.Edit{
		{Next: 1, Adds: []api.Seg{seg(5)}},
		{Seq: 1},
		{Adds: []api.Seg{seg(5), seg(5)}},
		{Adds: []api.Seg{seg(5), seg(4), seg(5), seg(1)}},
		{Adds: []api.Seg{{Num: 1, Group: 7, Member: 3}}},
		{Adds: []api.Seg{{Num: 1, Member: 3}}},
		{Dels: []int64{3, 1, 3}, Drops: []int64{3, 3}},
		{Adds: []api.Seg{seg(5)}, Dels: []int64{5}},
		{Pars: []api.Par{par(5, 5)}, Drops: []int64{5}},
		{Pars: []api.Par{par(5, 1, 2, 3), par(5, 3, 2, 1)}},
		{Pars: []api.Par{{Group: 1, Nums: []int64{2}, Sizes: []int{9}, Size: 0}}},
		{Pars: []api.Par{{Group: 1, Nums: []int64{2, 1}, Sizes: []int{0, 0}, Size: 9}}},
	} {
		wantCheck(t, e, api.OK)
	}
}

func TestP18_1CheckNumbersOfElements(t *testing.T) {
	for _, count := range []int{0, 1, 2, 59, 60, 61, 62, 120, 255, 256, 257, 256 + 60, 1 << 16, 1<<16 + 1} {
		want := api.OK
		if count > 60 {
			want = api.ErrForm
		}
		wantCheck(t, api.Edit{Adds: slices.Repeat([]api.Seg{seg(7)}, count)}, want)
		wantCheck(t, api.Edit{Dels: slices.Repeat([]int64{7}, count)}, want)
		wantCheck(t, api.Edit{Pars: slices.Repeat([]api.Par{par(7, 1, 2)}, count)}, want)
		wantCheck(t, api.Edit{Drops: slices.Repeat([]int64{7}, count)}, want)
	}
}

func TestP18_1CheckFullLists(t *testing.T) {
	greatest := api.Par{Group: mostNum, Nums: []int64{mostNum, mostNum - 1, mostNum - 2}, Sizes: []int{mostSize, mostSize, mostSize}, Size: mostSize, Sum: mostSum}
	e := api.Edit{
		Next:  mostNum,
		Seq:   mostNum,
		Adds:  slices.Repeat([]api.Seg{{Num: mostNum, Sealed: true, Group: mostNum, Member: 3, Size: mostSize, Sum: mostSum}}, 60),
		Dels:  slices.Repeat([]int64{mostNum}, 60),
		Pars:  slices.Repeat([]api.Par{greatest}, 60),
		Drops: slices.Repeat([]int64{mostNum}, 60),
	}
	wantCheck(t, e, api.OK)
	for k := range 60 {
		e.Dels[k] = 0
		wantCheck(t, e, api.ErrForm)
		e.Dels[k], e.Drops[k] = 1, mostNum+1
		wantCheck(t, e, api.ErrForm)
		e.Drops[k], e.Adds[k].Member = 1, 4
		wantCheck(t, e, api.ErrForm)
		e.Adds[k].Member, e.Pars[k].Size = 0, -1
		wantCheck(t, e, api.ErrForm)
		e.Pars[k].Size = 0
	}
	wantCheck(t, e, api.OK)
}

// spoilOne puts a number, often a wrong one, into some place of e, or makes a list longer or shorter.
func spoilOne(r *rand.Rand, e *api.Edit) {
	n := tried()[r.Intn(len(tried()))]
	switch r.Intn(8) {
	case 0:
		e.Next = n
	case 1:
		e.Seq = n
	case 2:
		e.Dels = append(e.Dels, n)
	case 3:
		e.Drops = append([]int64{n}, e.Drops...)
	case 4:
		e.Adds = append(e.Adds, api.Seg{Num: n}, api.Seg{Num: 1, Size: int(n)})
	case 5:
		e.Adds = append([]api.Seg{{Num: 1, Member: int(n)}, {Num: 1, Group: n}}, e.Adds...)
	case 6:
		e.Pars = append(e.Pars, par(n, 1, 2), par(1, n, 2))
	case 7:
		if len(e.Pars) > 0 {
			p := &e.Pars[r.Intn(len(e.Pars))]
			p.Nums = append(p.Nums, 1)
			p.Sizes = append(p.Sizes, int(n))
		}
	}
}

func TestP18_1CheckAnyEdits(t *testing.T) {
	r := rand.New(rand.NewSource(1))
	wrong := 0
	for range 20_000 {
		e := anyEdit(r)
		wantCheck(t, e, api.OK)
		for range 1 + r.Intn(2) {
			spoilOne(r, &e)
		}
		if plainCheck(e) != api.OK {
			wrong++
		}
		wantCheck(t, e, plainCheck(e))
	}
	if wrong < 5_000 || wrong > 18_000 {
		t.Errorf("%d of these edits were not valid", wrong)
	}
}
