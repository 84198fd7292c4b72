package manifest_test

import (
	"bytes"
	"fmt"
	"math/rand"
	"slices"
	"strconv"
	"strings"
	"testing"

	"folio/api"
	"folio/disk"
	"folio/edit"
	"folio/manifest"
)

func TestP19_2Rewrite(t *testing.T) {
	o := made(t)
	o.rewrites(t)
	for _, e := range some()[1:] {
		o.commits(t, e)
		o.rewrites(t)
		wantNames(t, "Rewrite", o.f, fileName)
		wantNames(t, "Rewrite", o.f.Crash(0, nil), fileName)
		o.rewrites(t)
	}
	for n := range int64(50) {
		o.commits(t, api.Edit{Seq: 800 + n})
	}
	used := o.f.Used()
	o.rewrites(t)
	if o.f.Used() >= used {
		t.Errorf("%d bytes, and %d before", o.f.Used(), used)
	}
	o.commits(t, next())
	o.rewrites(t)
}

// The file that an earlier rewrite left behind is in nobody's way.
func TestP19_2RewriteWithALeftFile(t *testing.T) {
	o := with(t, some()[1:]...)
	o.f.Create("NEW")
	o.f.Append("NEW", log(t, api.Edit{Next: 3, Seq: 3}))
	o.f.Sync("NEW")
	o.f.SyncDir()
	o.rewrites(t)
	wantNames(t, "Rewrite", o.f, fileName)
	o.commits(t, next())
}

func TestP19_2RewriteOfTheMost(t *testing.T) {
	one := func(group int64) api.Par { return par(group, mostNum-1, group, mostNum-2) }
	o := with(t, api.Edit{Next: mostNum, Seq: mostNum, Adds: append(upTo(mostNum-59, mostNum-1, sealed), sealed(1))})
	o.commits(t, api.Edit{Pars: upTo(mostNum-59, mostNum-3, one)})
	o.commits(t, api.Edit{Pars: pars(par(3, 1), par(2, 1), par(1, 1))})
	o.rewrites(t)
	o.commits(t, api.Edit{Dels: upTo(mostNum-59, mostNum-1, same)})
	o.rewrites(t)
}

func wantOld(t *testing.T, o *both, want ...string) {
	t.Helper()
	if got := o.m.Old(); !slices.Equal(got, want) {
		t.Fatalf("Old: %q, not %q", got, want)
	}
}

func create(f *disk.FS, names ...string) {
	for _, name := range names {
		f.Create(name)
	}
}

func TestP19_2OldExample(t *testing.T) {
	o := with(t, api.Edit{Next: 20, Adds: segs(raw(1), sealed(2), sealed(4), sealed(8), sealed(10)), Pars: pars(par(5, 2), par(6, 4))})
	wantOld(t, o)
	create(o.f, "x", "NEW", "7.par", "5.par", "2.raw", "2.seg", "1.seg", "1.raw")
	wantOld(t, o, "1.seg", "2.raw", "7.par", "NEW", "x")
	wantNames(t, "Old", o.f, "1.raw", "1.seg", "2.raw", "2.seg", "5.par", "7.par", fileName, "NEW", "x")
}

func TestP19_2OldOfOtherNames(t *testing.T) {
	o := with(t, api.Edit{Next: mostNum, Adds: segs(raw(1), sealed(2), raw(mostNum-1), sealed(mostNum-2)), Pars: pars(par(2, 2), par(mostNum-1, 2))})
	own := []string{"1.raw", "2.seg", "2.par", "1125899906842623.raw", "1125899906842622.seg", "1125899906842623.par"}
	create(o.f, own...)
	wantOld(t, o)
	others := []string{
		"0.raw", "0.seg", "0.par", "01.raw", "1", "1.", "1.RAW", "1.par", "1.ra", "1.raww", "1.raw.", "1raw", ".raw", "11.raw", "raw", "raw.1",
		"02.seg", "2.raw", "12.seg", "2.seg.2", "2.part", "2..par", "M", "MANIFES", "MANIFEST.", "MANIFESTO", "manifest", "NEW", "new", ".",
		"1125899906842623.seg", "1125899906842622.raw", "1125899906842622.par", "1125899906842624.raw", "4503599627370495.raw",
	}
	create(o.f, others...)
	wantOld(t, o, slices.Sorted(slices.Values(others))...)
	o.f.Remove(fileName)
	wantOld(t, o, slices.Sorted(slices.Values(others))...)
}

// What Old answers hangs on the manifest as it is now, closed or not, and on the directory as it is now.
func TestP19_2OldGoesAlong(t *testing.T) {
	o := made(t)
	create(o.f, "1.raw", "1.seg", "3.par")
	wantOld(t, o, "1.raw", "1.seg", "3.par")
	o.commits(t, api.Edit{Next: 9, Adds: segs(raw(1))})
	wantOld(t, o, "1.seg", "3.par")
	o.refuses(t, api.Edit{Dels: nums(1, 1)})
	wantOld(t, o, "1.seg", "3.par")
	o.commits(t, api.Edit{Dels: nums(1), Adds: segs(sealed(1))})
	wantOld(t, o, "1.raw", "3.par")
	o.commits(t, api.Edit{Pars: pars(par(3, 1))})
	wantOld(t, o, "1.raw")
	o.commits(t, api.Edit{Dels: nums(1)})
	wantOld(t, o, "1.raw", "1.seg")
	o.f.Rename("1.raw", "1.par")
	wantOld(t, o, "1.par", "1.seg")
	o.m = wantLoad(t, "Load", o.f, o.want)
	wantOld(t, o, "1.par", "1.seg")
	o.f.Fail(0)
	wantErr(t, "Commit", o.m.Commit(api.Edit{Drops: nums(3), Next: 50, Adds: segs(sealed(1))}), api.ErrIO)
	wantOld(t, o, "1.par", "1.seg")
}

func TestP19_2OldOfManyFiles(t *testing.T) {
	o := with(t, api.Edit{Next: 1000, Adds: upTo(1, 60, sealed), Pars: upTo(1, 60, func(n int64) api.Par { return par(n, 1) })})
	for n := range 60 {
		create(o.f, strconv.Itoa(n+1)+".seg", strconv.Itoa(n+1)+".par")
	}
	wantOld(t, o)
	var want []string
	for n := range 29 {
		create(o.f, strconv.Itoa(n+1)+".raw")
		want = append(want, strconv.Itoa(n+1)+".raw")
	}
	slices.Sort(want)
	wantOld(t, o, want...)
}

func TestP19_2Nil(t *testing.T) {
	var none *manifest.Manifest
	for range 2 {
		for _, e := range []api.Edit{{}, {Next: -1}, {Next: 9, Adds: segs(raw(1))}} {
			wantErr(t, "Commit", none.Commit(e), api.ErrClosed)
		}
		wantErr(t, "Rewrite", none.Rewrite(), api.ErrClosed)
		if len(none.Segs())+len(none.Pars())+len(none.Old()) != 0 || none.Next() != 0 || none.Seq() != 0 {
			t.Error("a nil manifest answers something")
		}
	}
}

func TestP19_2ZeroPanicsNowhere(t *testing.T) {
	for _, e := range []api.Edit{{}, {Next: -1}, {Next: 9, Adds: segs(sealed(1)), Pars: pars(par(1, 1))}, {Dels: nums(1), Drops: nums(1)}} {
		var m, x manifest.Manifest
		m.Commit(e)
		m.Commit(e)
		m.Rewrite()
		x.Rewrite()
		x.Commit(e)
		if len(m.Segs())+len(m.Pars())+len(m.Old()) != 0 {
			t.Error("a zero manifest has something")
		}
	}
}

// spare gives a copy of l with a spare capacity that is full of filler.
func spare[T any](l []T, filler T) []T {
	c := append(slices.Clone(l), filler, filler, filler)
	return c[:len(l)]
}

// spared gives a copy of e whose lists have spare capacity.
func spared(e api.Edit) api.Edit {
	e.Adds, e.Dels, e.Drops = spare(e.Adds, sealed(999)), spare(e.Dels, 999), spare(e.Drops, 999)
	e.Pars = spare(e.Pars, par(999, 999))
	for k, p := range e.Pars {
		e.Pars[k].Nums, e.Pars[k].Sizes = spare(p.Nums, 999), spare(p.Sizes, 999)
	}
	return e
}

// toldAll tells an edit with the spare capacity of its lists.
func toldAll(e api.Edit) string {
	s := fmt.Sprint(e.Next, e.Seq, e.Adds[:cap(e.Adds)], e.Dels[:cap(e.Dels)], e.Drops[:cap(e.Drops)], e.Pars[:cap(e.Pars)])
	for _, p := range e.Pars {
		s += fmt.Sprint(p.Nums[:cap(p.Nums)], p.Sizes[:cap(p.Sizes)])
	}
	return s
}

// spoil changes all that an edit's lists hold, up to their capacity.
func spoil(e api.Edit) {
	for _, p := range e.Pars {
		spoilPar(p)
	}
	fill(e.Adds, sealed(888))
	fill(e.Dels, 888)
	fill(e.Drops, 888)
	fill(e.Pars, par(888, 888))
}

func spoilPar(p api.Par) {
	fill(p.Nums, 888)
	fill(p.Sizes, 888)
}

func fill[T any](l []T, one T) {
	l = l[:cap(l)]
	for k := range l {
		l[k] = one
	}
}

func TestP19_2ArgumentsAreNeitherChangedNorKept(t *testing.T) {
	o := made(t)
	for _, e := range append(some()[1:], next(), api.Edit{Adds: segs(sealed(99), sealed(20)), Pars: pars(par(99, 99, 20), par(1, 20)), Next: mostNum}, api.Edit{Dels: nums(9, 9), Adds: segs(raw(9))}) {
		given := spared(e)
		was := toldAll(given)
		after, ok := o.want.commit(e, false)
		if err := o.m.Commit(given); (err == api.OK) != ok {
			t.Fatalf("Commit: %d", err)
		}
		if toldAll(given) != was {
			t.Errorf("Commit changed its argument to %s", toldAll(given))
		}
		spoil(given)
		o.want = after
		wantState(t, "an argument that is changed later", o.m, o.want)
		o.rewrites(t)
	}
}

func TestP19_2ResultsShareNothing(t *testing.T) {
	o := with(t, some()[1:]...)
	create(o.f, "x", "y", "z", "2.seg")
	for range 3 {
		l, twin := o.m.Segs(), o.m.Segs()
		p, twins := o.m.Pars(), o.m.Pars()
		old, olds := o.m.Old(), o.m.Old()
		was := fmt.Sprint(twin, twins, olds)
		fill(l, sealed(888))
		fill(old, "spoilt")
		for k := range p {
			others := fmt.Sprint(p[k+1:])
			sizes := fmt.Sprint(p[k].Sizes)
			fill(p[k].Nums, 888)
			if fmt.Sprint(p[k].Sizes) != sizes {
				t.Error("two lists of one Par share their memory")
			}
			fill(p[k].Sizes, 888)
			if fmt.Sprint(p[k+1:]) != others {
				t.Error("two Pars of one answer share their memory")
			}
		}
		fill(p, par(888, 888))
		if fmt.Sprint(twin, twins, olds) != was {
			t.Error("two answers share their memory")
		}
		wantState(t, "a result that was changed", o.m, o.want)
		wantOld(t, o, "x", "y", "z")
		o.rewrites(t)
	}
}

// Manifests don't get in each other's way, nor does one that was loaded and let go.
func TestP19_2ManifestsAreApart(t *testing.T) {
	a, b := with(t, some()[1:]...), made(t)
	wantLoad(t, "loaded", a.f, a.want)
	b.commits(t, api.Edit{Next: 5, Adds: segs(raw(3))})
	a.commits(t, next())
	wantState(t, "the other", b.m, b.want)
	c := a.f.Crash(0, nil)
	x := &both{f: c, m: wantLoad(t, "a crash", c, a.want), want: a.want}
	x.commits(t, api.Edit{Seq: 5000})
	wantState(t, "the one that crashed", a.m, a.want)
	if !bytes.Equal(file(a.f), log(t, append(some(), next())...)) {
		t.Error("the file of the one that crashed changed")
	}
}

// anyEdit gives an edit that often can be applied to p. No number of a sealed segment comes back as that of one that isn't.
func anyEdit(r *rand.Rand, p plain) api.Edit {
	num := func() int64 { return 1 + r.Int63n(p.next+1) }
	seg := func(n int64) api.Seg {
		return api.Seg{Num: n, Sealed: n%3 != 0, Group: r.Int63n(5), Member: r.Intn(4), Size: r.Intn(5000), Sum: r.Uint32()}
	}
	var e api.Edit
	if r.Intn(2) == 0 {
		e.Next = p.next + r.Int63n(12) - r.Int63n(2)
	}
	if r.Intn(2) == 0 {
		e.Seq = p.seq + r.Int63n(9) - r.Int63n(2)
	}
	for range r.Intn(4) {
		e.Adds = append(e.Adds, seg(num()))
	}
	for range r.Intn(3) {
		if len(p.segs) > 0 && r.Intn(9) > 0 {
			e.Dels = append(e.Dels, p.segs[r.Intn(len(p.segs))].Num)
		} else if r.Intn(4) == 0 {
			e.Dels = append(e.Dels, num())
		}
	}
	for range r.Intn(3) {
		if len(p.pars) > 0 && r.Intn(9) > 0 {
			e.Drops = append(e.Drops, p.pars[r.Intn(len(p.pars))].Group)
		} else if r.Intn(4) == 0 {
			e.Drops = append(e.Drops, num())
		}
	}
	for range r.Intn(3) {
		var l []int64
		for range 1 + r.Intn(3) {
			if n := num(); len(p.segs) > 0 && r.Intn(9) > 0 {
				l = append(l, p.segs[r.Intn(len(p.segs))].Num)
			} else {
				l = append(l, n)
			}
		}
		slices.Sort(l)
		e.Pars = append(e.Pars, par(num(), slices.Compact(l)...))
	}
	return e
}

func (o *both) anyCrash(t *testing.T, r *rand.Rand) {
	t.Helper()
	b := file(o.f)
	for range r.Intn(3) {
		o.f.Create("x" + strings.Repeat("y", r.Intn(3)))
	}
	if r.Intn(2) == 0 {
		// The beginning of one more edit, of which nobody was told that it is committed.
		e := api.Edit{Seq: o.want.seq + 1}
		part := log(t, e)
		o.f.Append(fileName, part[:r.Intn(len(part))])
	}
	o.f = o.f.Crash(r.Intn(4)-1, []int{r.Intn(40), r.Intn(40)})
	if !bytes.HasPrefix(file(o.f), b) {
		t.Fatal("a crash took synced bytes")
	}
	o.m = wantLoad(t, "a crash", o.f, o.want)
}

// Manifests are held against the plain form, through any edits, rewrites and crashes.
func TestP19_2AnyCalls(t *testing.T) {
	applied, wrong := 0, 0
	for seed := range int64(150) {
		r := rand.New(rand.NewSource(seed))
		o := made(t)
		for range 120 {
			switch r.Intn(20) {
			case 0:
				o.rewrites(t)
			case 1:
				o.anyCrash(t, r)
			default:
				if e := anyEdit(r, o.want); o.tries(t, e) {
					applied++
				} else if edit.Check(e) == api.OK {
					wrong++
				}
			}
		}
	}
	if applied < 2_000 || wrong < 2_000 {
		t.Errorf("%d edits were applied, %d were valid but not applied", applied, wrong)
	}
}
