package manifest_test

import (
	"fmt"
	"slices"
	"testing"

	"folio/api"
	"folio/disk"
	"folio/manifest"
)

// refused gives edits that can't be applied to what the edits of some come to: the segments 2 to 12 (sealed), 28 and
// 1<<50 - 1 (not sealed), the groups 20 and 29, Next 1<<50 and Seq 700.
func refused() []api.Edit {
	return []api.Edit{
		// edit.Check answers ErrForm.
		{Next: -1}, {Next: mostNum + 1}, {Seq: -1}, {Seq: mostNum + 1},
		{Adds: segs(raw(0))}, {Adds: segs(api.Seg{Num: 13, Member: 4})}, {Adds: segs(api.Seg{Num: 13, Size: -1})},
		{Dels: nums(0)}, {Drops: nums(-1)}, {Pars: pars(par(13))}, {Pars: pars(par(13, 2, 3, 4, 5))}, {Pars: pars(par(13, 2, 2))},
		{Pars: pars(api.Par{Group: 13, Nums: nums(2)})}, {Adds: segs(raw(mostNum + 1))}, {Adds: upTo(101, 161, raw)},
		// Dels and Drops.
		{Dels: nums(1)}, {Dels: nums(20)}, {Dels: nums(13)}, {Dels: nums(2, 2)}, {Dels: nums(2, 3, 28, 2)}, {Dels: nums(2, 13)},
		{Dels: nums(13), Adds: segs(raw(13))}, {Dels: nums(2, 2), Adds: segs(raw(2))},
		{Drops: nums(21)}, {Drops: nums(2)}, {Drops: nums(20, 20)}, {Drops: nums(20, 29, 20)}, {Drops: nums(20, 1)},
		{Drops: nums(13), Pars: pars(par(13, 2))}, {Drops: nums(20, 20), Pars: pars(par(20, 2))},
		// Adds.
		{Adds: segs(raw(2))}, {Adds: segs(sealed(28))}, {Adds: segs(raw(13), raw(14), raw(13))}, {Adds: segs(raw(13), sealed(13))},
		{Dels: nums(2), Adds: segs(raw(2), raw(3))}, {Dels: nums(2), Adds: segs(raw(2), sealed(2))}, {Adds: segs(raw(mostNum - 1))},
		// Pars.
		{Pars: pars(par(20, 2))}, {Pars: pars(par(13, 2), par(13, 3))}, {Pars: pars(par(13, 2), par(14, 3), par(13, 2))},
		{Drops: nums(20), Pars: pars(par(29, 2))}, {Drops: nums(20), Pars: pars(par(20, 2), par(20, 3))},
		{Pars: pars(par(13, 1))}, {Pars: pars(par(13, 1, 2, 3))}, {Pars: pars(par(13, 2, 1, 3))}, {Pars: pars(par(13, 2, 3, 1))},
		{Pars: pars(par(13, 28))}, {Pars: pars(par(13, 2, 3, 28))}, {Pars: pars(par(13, 2), par(14, 28))}, {Pars: pars(par(13, 20))},
		{Pars: pars(par(13, 2)), Dels: nums(2)}, {Pars: pars(par(13, 2, 3)), Dels: nums(3)}, {Pars: pars(par(13, 13))},
		{Pars: pars(par(13, 13)), Adds: segs(raw(13))}, {Pars: pars(par(13, 2)), Dels: nums(2), Adds: segs(raw(2))},
		// Counters.
		{Next: mostNum - 1}, {Next: 1}, {Seq: 699}, {Seq: 1}, {Adds: segs(raw(mostNum))}, {Pars: pars(par(mostNum, 2))},
	}
}

func TestP19_2CommitExample(t *testing.T) {
	o := made(t)
	o.refuses(t, api.Edit{Adds: segs(raw(1))})
	o.commits(t, api.Edit{Next: 10, Seq: 5, Adds: segs(sealed(4), raw(1), sealed(2))})
	o.refuses(t, api.Edit{Next: 9})
	o.refuses(t, api.Edit{Seq: 4})
	o.commits(t, api.Edit{Seq: 5})
	o.commits(t, api.Edit{Dels: nums(1), Adds: segs(raw(1))})
	o.refuses(t, api.Edit{Dels: nums(1, 1)})
	if got := fmt.Sprint(o.m.Segs()); got != "[{1 false 0 0 1 0} {2 true 0 0 2 7} {4 true 0 0 4 7}]" || o.m.Next() != 10 || o.m.Seq() != 5 {
		t.Errorf("%s, %d, %d", got, o.m.Next(), o.m.Seq())
	}
}

func TestP19_2CommitRefuses(t *testing.T) {
	o := with(t, some()[1:]...)
	for _, e := range refused() {
		o.refuses(t, e)
	}
	o.commits(t, api.Edit{Dels: nums(28)})
	l, err := manifest.Load(o.f)
	wantErr(t, "Load", err, api.OK)
	o.m = l
	for _, e := range refused() {
		if !slices.Contains(e.Dels, 28) {
			o.tries(t, e)
		}
	}
}

func TestP19_2CommitApplies(t *testing.T) {
	o := with(t, some()[1:]...)
	for _, e := range []api.Edit{
		{},
		{Next: mostNum, Seq: 700},
		{Seq: 701, Adds: segs(raw(14), sealed(13))},
		{Dels: nums(13, 2), Adds: segs(sealed(13))},
		{Drops: nums(20), Pars: pars(par(20, 3, 13, 12), par(1, 3))},
		{Pars: pars(par(40, 40, 41)), Adds: segs(sealed(41), raw(42), sealed(40))},
		{Dels: nums(28, 4), Adds: segs(sealed(28)), Pars: pars(par(28, 28))},
		{Dels: nums(28, 40), Drops: nums(28, 40)},
		{Dels: nums(3)},
		{Adds: segs(raw(1), raw(3)), Drops: nums(29)},
		{Seq: mostNum},
	} {
		o.commits(t, e)
	}
	o.rewrites(t)
}

// Each value of a counter is tried on top of the present one, 10 and 5.
func TestP19_2CommitCounters(t *testing.T) {
	for _, next := range []int64{-1 << 63, -1, 0, 1, 8, 9, 10, 11, 12, 1 << 32, 1<<32 + 10, mostNum - 1, mostNum, mostNum + 1, 1<<63 - 1} {
		for _, seq := range []int64{-1, 0, 1, 4, 5, 6, 1 << 40, mostNum, mostNum + 1} {
			with(t, api.Edit{Next: 10, Seq: 5}).tries(t, api.Edit{Next: next, Seq: seq})
		}
		for _, num := range []int64{1, 8, 9, 10, 11, 12, 1 << 32, mostNum - 1, mostNum} {
			o := with(t, api.Edit{Next: 10, Seq: 5, Adds: segs(sealed(2))})
			o.tries(t, api.Edit{Next: next, Adds: segs(raw(1), raw(num))})
			o.tries(t, api.Edit{Next: next, Pars: pars(par(1, 2), par(num, 2))})
		}
	}
	o := made(t)
	for n := int64(1); n < 20; n++ {
		o.refuses(t, api.Edit{Adds: segs(raw(n))})
		o.refuses(t, api.Edit{Next: n, Adds: segs(raw(n))})
		o.commits(t, api.Edit{Next: n + 1, Adds: segs(raw(n))})
	}
	if o.m.Seq() != 1 {
		t.Errorf("Seq is %d", o.m.Seq())
	}
}

func TestP19_2CommitManySegments(t *testing.T) {
	o := with(t, api.Edit{Next: 1000, Adds: upTo(1, 59, sealed)})
	o.refuses(t, api.Edit{Adds: segs(raw(60), raw(61))})
	o.commits(t, api.Edit{Adds: segs(raw(60))})
	o.refuses(t, api.Edit{Adds: segs(raw(61))})
	o.refuses(t, api.Edit{Dels: nums(7), Adds: segs(raw(61), raw(62))})
	o.commits(t, api.Edit{Dels: nums(7), Adds: segs(raw(61))})
	o.commits(t, api.Edit{Dels: append(upTo(1, 6, same), upTo(8, 61, same)...), Adds: upTo(101, 160, sealed)})
	o.refuses(t, api.Edit{Adds: segs(raw(61))})
	o.rewrites(t)
	o.refuses(t, api.Edit{Adds: segs(raw(61))})
	o.commits(t, api.Edit{Dels: upTo(101, 160, same)})
	o.refuses(t, api.Edit{Adds: upTo(1, 61, raw)})
	o.commits(t, api.Edit{Adds: upTo(1, 60, raw)})
}

func TestP19_2CommitManyParityFiles(t *testing.T) {
	one := func(group int64) api.Par { return par(group, 2, 4) }
	o := with(t, api.Edit{Next: 1000, Adds: upTo(1, 60, sealed), Pars: upTo(1, 59, one)})
	o.refuses(t, api.Edit{Pars: pars(one(60), one(61))})
	o.commits(t, api.Edit{Pars: pars(one(60))})
	o.refuses(t, api.Edit{Pars: pars(one(61))})
	o.refuses(t, api.Edit{Drops: nums(7), Pars: pars(one(61), one(62))})
	o.commits(t, api.Edit{Drops: nums(7), Pars: pars(one(61))})
	o.commits(t, api.Edit{Drops: append(upTo(1, 6, same), upTo(8, 61, same)...), Pars: upTo(101, 160, one)})
	o.refuses(t, api.Edit{Pars: pars(one(61))})
	o.rewrites(t)
	o.commits(t, api.Edit{Drops: upTo(101, 160, same)})
}

func same(n int64) int64 { return n }

// Each field of what is added comes back, from the manifest itself and from the file.
func TestP19_2CommitKeepsAllFields(t *testing.T) {
	full := api.Edit{
		Next: mostNum, Seq: mostNum,
		Adds: []api.Seg{{Num: 5, Sealed: true, Group: 70, Member: 3, Size: 400, Sum: 1<<32 - 1}, {Num: mostNum - 1, Sealed: true, Group: mostNum, Member: 1, Size: 1 << 22, Sum: 1}, {Num: 3, Group: 2}},
		Pars: []api.Par{{Group: mostNum - 1, Nums: nums(mostNum-1, 5), Sizes: []int{3, 1 << 22}, Size: 1 << 22, Sum: 1<<32 - 1}, {Group: 5, Nums: nums(5), Sizes: []int{0}}},
	}
	o := with(t, full)
	o.rewrites(t)
	want := "1125899906842624 1125899906842624 [{3 false 2 0 0 0} {5 true 70 3 400 4294967295} {1125899906842623 true 1125899906842624 1 4194304 1}]" +
		" [{5 [5] [0] 0 0} {1125899906842623 [1125899906842623 5] [3 4194304] 4194304 4294967295}]"
	if got := told(o.m); got != want {
		t.Errorf("%s", got)
	}
}

// A parity file outlasts the segments that it names: a later edit is judged by its own Pars alone.
func TestP19_2CommitRemovesNamedSegments(t *testing.T) {
	o := with(t, api.Edit{Next: 20, Adds: upTo(1, 6, sealed), Pars: pars(par(10, 1, 2, 3), par(11, 4, 5))})
	o.commits(t, api.Edit{Dels: nums(2, 4)})
	o.commits(t, api.Edit{Dels: nums(1, 5), Adds: segs(sealed(7))})
	o.refuses(t, api.Edit{Drops: nums(10), Pars: pars(par(10, 1, 2, 3))})
	o.rewrites(t)
	o.commits(t, api.Edit{Seq: 9})
	o.commits(t, api.Edit{Drops: nums(10), Pars: pars(par(10, 3))})
	o.rewrites(t)
}

// An ErrForm is no error of package disk: it closes nothing.
func TestP19_2ErrFormDoesNotClose(t *testing.T) {
	o := made(t)
	for range 3 {
		o.refuses(t, api.Edit{Next: -1})
		o.refuses(t, api.Edit{Dels: nums(1)})
		o.commits(t, api.Edit{})
		o.rewrites(t)
	}
	o.f.Fail(0)
	o.refuses(t, api.Edit{Next: -1})
	o.refuses(t, api.Edit{Dels: nums(1)})
	o.f.Fail(-1)
	o.commits(t, api.Edit{})
}

func next() api.Edit {
	return api.Edit{Next: mostNum, Seq: 900, Dels: nums(3, 28), Adds: upTo(100, 110, sealed), Drops: nums(20), Pars: pars(par(50, 100, 110))}
}

// wantEither asks for a state as before or as after, for one that is not closed, and for edits that come behind it.
func wantEither(t *testing.T, what string, f *disk.FS, before, after plain) {
	t.Helper()
	m, err := manifest.Load(f)
	wantErr(t, what+": Load", err, api.OK)
	o := &both{f: f, m: m, want: before}
	if told(m) != before.told() {
		o.want = after
	}
	wantState(t, what, m, o.want)
	o.commits(t, api.Edit{Seq: 10_000, Adds: segs(raw(77))})
}

// fails has a call fail at its n-th modifying call, and asks for what follows of that.
func fails(t *testing.T, n int, call func(m *manifest.Manifest) api.Errno, after func(p plain) plain) {
	t.Helper()
	o := with(t, some()[1:]...)
	what := fmt.Sprint("call ", n)
	o.f.Fail(n)
	wantErr(t, what, call(o.m), api.ErrIO)
	o.f.Fail(-1)
	wantState(t, what, o.m, o.want)
	o.isClosed(t)
	for k := range 6 {
		for _, tails := range [][]int{nil, {1, 1}, {11, 11}, {12, 12}, {70, 70}, {9999, 9999}} {
			c := o.f.Crash(k, tails)
			wantNoOthers(t, what, c)
			wantEither(t, what+", a crash", c, o.want, after(o.want))
		}
	}
	m, err := manifest.Load(o.f)
	wantErr(t, what+": Load", err, api.OK)
	if got := told(m); got != o.want.told() && got != after(o.want).told() {
		t.Fatalf("%s: %s", what, got)
	}
	wantErr(t, what+": Commit", m.Commit(api.Edit{Seq: 10_000}), api.OK)
	wantErr(t, what+": Rewrite", m.Rewrite(), api.OK)
	o.isClosed(t)
}

func TestP19_2CommitFails(t *testing.T) {
	o := with(t, some()[1:]...)
	was := o.f.Calls()
	o.commits(t, next())
	count := o.f.Calls() - was
	if count < 2 {
		t.Fatalf("%d calls to append and sync", count)
	}
	for n := range count {
		fails(t, n, func(m *manifest.Manifest) api.Errno { return m.Commit(next()) }, func(p plain) plain {
			p, _ = p.commit(next(), false)
			return p
		})
	}
}

func TestP19_2RewriteFails(t *testing.T) {
	o := with(t, some()[1:]...)
	was := o.f.Calls()
	o.rewrites(t)
	count := o.f.Calls() - was
	if count < 4 {
		t.Fatalf("%d calls to rewrite a file", count)
	}
	for n := range count {
		fails(t, n, (*manifest.Manifest).Rewrite, func(p plain) plain { return p })
	}
}

func TestP19_2WithoutRoom(t *testing.T) {
	o := with(t, some()[1:]...)
	b := log(t, next())
	o.f.Room(o.f.Used() + len(b) - 1)
	wantErr(t, "Commit", o.m.Commit(next()), api.ErrFull)
	o.isClosed(t)
	wantLoad(t, "after ErrFull", o.f, o.want)
	wantLoad(t, "after ErrFull and a crash", o.f.Crash(0, nil), o.want)
	o.f.Room(room)
	o.isClosed(t)

	o = with(t, some()[1:]...)
	o.f.Room(o.f.Used() + len(b))
	o.commits(t, next())
	o.refuses(t, api.Edit{Next: 1})
	wantErr(t, "Rewrite", o.m.Rewrite(), api.ErrFull)
	o.isClosed(t)
	o.f.Room(room)
	o.isClosed(t)
	wantLoad(t, "after ErrFull", o.f, o.want)
	wantLoad(t, "after ErrFull and a crash", o.f.Crash(0, nil), o.want)
}

// Without the file, or without a place for another one, a call has the errors of package disk, too.
func TestP19_2OtherErrorsOfTheDisk(t *testing.T) {
	o := with(t, some()[1:]...)
	o.f.Remove(fileName)
	wantErr(t, "Commit", o.m.Commit(api.Edit{}), api.ErrNotFound)
	o.isClosed(t)
	o = with(t, some()[1:]...)
	for k := range 149 {
		o.f.Create(fmt.Sprint("f", k))
	}
	o.commits(t, next())
	wantErr(t, "Rewrite", o.m.Rewrite(), api.ErrFull)
	o.isClosed(t)
	wantLoad(t, "after ErrFull", o.f, o.want)
}

// A crash without any failure: what was committed stays, however little else does.
func TestP19_2Crashes(t *testing.T) {
	for n := range 4 {
		o := made(t)
		for num := int64(1); num < 30; num++ {
			o.commits(t, api.Edit{Next: num + 1, Seq: num * 3, Adds: segs(sealed(num))})
			if num%7 == 0 {
				o.rewrites(t)
			}
			if num%5 == 0 {
				o.f.Create("x")
				o.f.Append("x", []byte("x"))
				o.f = o.f.Crash(n-1, []int{n, n, n})
				o.m = wantLoad(t, "a crash", o.f, o.want)
			}
		}
	}
}
