package manifest_test

import (
	"bytes"
	"fmt"
	"slices"
	"strconv"
	"testing"

	"folio/api"
	"folio/crc"
	"folio/disk"
	"folio/edit"
	"folio/manifest"
)

// some gives the edits of a log. The first one is that of a new manifest.
func some() []api.Edit {
	return []api.Edit{
		{Next: 1, Seq: 1},
		{Next: 30, Seq: 5, Adds: append(upTo(1, 12, sealed), raw(29))},
		{Pars: pars(par(20, 1, 2, 3), par(21, 12), par(29, 11, 4)), Seq: 700},
		{Next: mostNum, Dels: nums(1, 12, 29), Drops: nums(21), Adds: segs(raw(mostNum-1), sealed(12), raw(28))},
	}
}

func wantCreate(t *testing.T, what string, f *disk.FS) *both {
	t.Helper()
	m, err := manifest.Create(f)
	if err != api.OK || m == nil {
		t.Fatalf("%s: Create: error %d, a manifest: %v", what, err, m != nil)
	}
	wantState(t, what, m, fresh())
	return &both{f: f, m: m, want: fresh()}
}

func wantNoCreate(t *testing.T, what string, f *disk.FS, want api.Errno) {
	t.Helper()
	if m, err := manifest.Create(f); m != nil || err != want {
		t.Fatalf("%s: Create: error %d, not %d; a manifest: %v", what, err, want, m != nil)
	}
}

func TestP19_1Create(t *testing.T) {
	f := disk.New(room)
	o := wantCreate(t, "in an empty file system", f)
	for _, g := range []*disk.FS{f, f.Crash(0, nil), f.Crash(9, []int{999})} {
		wantNames(t, "Create", g, fileName)
		l, size, ok := edit.Scan(file(g))
		if !ok || size != len(file(g)) || len(l) != 1 || l[0].Next != 1 || l[0].Seq != 1 {
			t.Errorf("the file tells %v", l)
		}
		wantSingle(t, "Create", g, fresh())
		wantLoad(t, "Create", g, fresh())
	}
	o.commits(t, api.Edit{Next: 2, Adds: segs(raw(1))})
}

func TestP19_1CreateAmongOthers(t *testing.T) {
	f := disk.New(room)
	for _, name := range []string{"1.raw", "MANIFES", "MANIFESTO", "NEW", "manifest"} {
		f.Create(name)
		f.Append(name, log(t, some()...))
	}
	wantCreate(t, "among others", f).commits(t, api.Edit{Next: 2, Adds: segs(raw(1))})
	for _, name := range []string{"1.raw", "MANIFES", "MANIFESTO", "manifest"} {
		if b, err := f.Read(name); err != api.OK || !bytes.Equal(b, log(t, some()...)) {
			t.Errorf("%s changed", name)
		}
	}
}

func TestP19_1CreateExists(t *testing.T) {
	whole := log(t, some()...)
	changed := bytes.Clone(whole)
	changed[9] ^= 1
	for _, b := range [][]byte{nil, {1}, whole, whole[:30], changed} {
		f := holding(b)
		f.Fail(0)
		f.Room(0)
		for range 2 {
			wantNoCreate(t, "with a file", f, api.ErrExists)
		}
		if !bytes.Equal(file(f), b) {
			t.Error("ErrExists changed the file")
		}
		wantNames(t, "with a file", f, fileName)
	}
	f := disk.New(room)
	f.Create(fileName)
	wantNoCreate(t, "with a file that isn't synced", f, api.ErrExists)
	f.Remove(fileName)
	wantCreate(t, "with a file that is gone", f)
}

// A Create that fails gives none; after a crash there is no manifest, or a new one.
func TestP19_1CreateFails(t *testing.T) {
	count := made(t).f.Calls()
	if count < 4 {
		t.Fatalf("%d calls to write a file for good", count)
	}
	for n := range count {
		f := disk.New(room)
		f.Fail(n)
		wantNoCreate(t, "call "+strconv.Itoa(n), f, api.ErrIO)
		for k := range 6 {
			for _, tails := range [][]int{nil, {1, 1}, {12, 13}, {999, 999}} {
				c := f.Crash(k, tails)
				wantNoOthers(t, "a crash", c)
				if !slices.Contains(c.Names(), fileName) {
					wantNoLoad(t, "a crash", c, api.ErrNotFound)
					wantCreate(t, "a crash", c)
				}
				o := &both{f: c, m: wantLoad(t, "a crash", c, fresh()), want: fresh()}
				o.commits(t, api.Edit{Next: 2, Adds: segs(raw(1))})
			}
		}
		if !slices.Contains(f.Names(), fileName) {
			wantCreate(t, "once more", f)
		}
		wantNoCreate(t, "once more", f, api.ErrExists)
		wantLoad(t, "once more", f, fresh())
	}
}

func TestP19_1CreateWithoutRoom(t *testing.T) {
	size := made(t).f.Used()
	for n := range size {
		wantNoCreate(t, "a room of "+strconv.Itoa(n), disk.New(n), api.ErrFull)
	}
	wantCreate(t, "enough room", disk.New(size))
	f := disk.New(room)
	for k := range 150 {
		f.Create("f" + strconv.Itoa(k))
	}
	wantNoCreate(t, "150 files", f, api.ErrFull)
	f.Remove("f0")
	wantCreate(t, "149 files", f)
}

func TestP19_1LoadNotFound(t *testing.T) {
	wantNoLoad(t, "no file", disk.New(room), api.ErrNotFound)
	f := disk.New(room)
	for _, name := range []string{"NEW", "manifest", "MANIFES", "MANIFEST.", "MANIFESTO"} {
		f.Create(name)
		f.Append(name, log(t, some()...))
	}
	f.Fail(0)
	wantNoLoad(t, "no such file", f, api.ErrNotFound)
	wantNoLoad(t, "no file system", nil, api.ErrNotFound)
	wantNoCreate(t, "no file system", nil, api.ErrNotFound)
	o := made(t)
	o.f.Remove(fileName)
	wantNoLoad(t, "the file is gone", o.f, api.ErrNotFound)
}

func TestP19_1LoadOfAWholeFile(t *testing.T) {
	for k := range some() {
		l := some()[:k+1]
		o := &both{f: holding(log(t, l...)), want: of(t, l...)}
		o.m = wantLoad(t, "whole", o.f, o.want)
		if !bytes.Equal(file(o.f), log(t, l...)) {
			t.Error("Load changed a file of which nothing is cut off")
		}
		wantLoad(t, "whole, once more", o.f, o.want)
		o.commits(t, api.Edit{Seq: 10_000})
		o.rewrites(t)
	}
}

func TestP19_1LoadOfOneEdit(t *testing.T) {
	e := api.Edit{Next: 90, Seq: 300, Adds: segs(sealed(7), raw(89), sealed(2)), Pars: pars(par(80, 7, 2), par(5, 2))}
	o := &both{f: holding(log(t, e)), want: of(t, e)}
	o.m = wantLoad(t, "one edit", o.f, o.want)
	o.refuses(t, api.Edit{Next: 89})
	o.refuses(t, api.Edit{Seq: 299})
	o.refuses(t, api.Edit{Adds: segs(raw(7))})
	o.refuses(t, api.Edit{Adds: segs(raw(90))})
	o.commits(t, api.Edit{Dels: nums(7), Drops: nums(80)})
}

// The log loses its end after each byte: the complete edits stay, and others can come directly behind them.
func TestP19_1LoadOfEachBeginning(t *testing.T) {
	l := some()
	whole := log(t, l...)
	k := 0
	for n := range len(whole) + 1 {
		if k < len(l) && len(log(t, l[:k+1]...)) <= n {
			k++
		}
		f := holding(whole[:n])
		if k == 0 {
			wantNoLoad(t, "no edit", f, api.ErrCorrupt)
			if !bytes.Equal(file(f), whole[:n]) {
				t.Fatal("ErrCorrupt changed the file")
			}
			continue
		}
		o := &both{f: f, want: of(t, l[:k]...)}
		what := fmt.Sprint(n, " bytes")
		o.m = wantLoad(t, what, f, o.want)
		wantNames(t, what, f, fileName)
		if n > len(log(t, l[:k]...)) {
			wantSingle(t, what, f, o.want)
			wantSingle(t, what, f.Crash(0, nil), o.want)
		}
		o.commits(t, api.Edit{Seq: 10_000})
		wantLoad(t, what, f, o.want)
	}
}

// What comes behind the edits counts as cut off if it may be the beginning of one.
func TestP19_1LoadOfOtherEnds(t *testing.T) {
	l := some()
	for _, rest := range [][]byte{{0}, make([]byte, 11), crc.Seal(make([]byte, 100))[:12], crc.Seal(make([]byte, 5000))[:5011]} {
		f := holding(append(log(t, l...), rest...))
		o := &both{f: f, m: wantLoad(t, "cut off", f, of(t, l...)), want: of(t, l...)}
		wantSingle(t, "cut off", f, o.want)
		o.commits(t, api.Edit{Seq: 10_000})
		wantNoLoad(t, "no edit", holding(rest), api.ErrCorrupt)
	}
}

func TestP19_1LoadOfCorruptFiles(t *testing.T) {
	l := some()
	whole := log(t, l...)
	for at := range whole {
		changed := bytes.Clone(whole)
		changed[at] ^= byte(1 + at%255)
		f := holding(changed)
		wantNoLoad(t, fmt.Sprint("byte ", at), f, api.ErrCorrupt)
		if !bytes.Equal(file(f), changed) {
			t.Fatal("ErrCorrupt changed the file")
		}
	}
	wantNoLoad(t, "empty", holding(nil), api.ErrCorrupt)
	for _, rest := range [][]byte{make([]byte, 12), crc.Seal(nil), crc.Seal([]byte("no edit")), crc.Seal(make([]byte, 5000))} {
		wantNoLoad(t, "no edit's seal", holding(rest), api.ErrCorrupt)
		wantNoLoad(t, "no edit's seal ahead", holding(append(rest, whole...)), api.ErrCorrupt)
		wantNoLoad(t, "no edit's seal behind", holding(slices.Concat(whole, rest)), api.ErrCorrupt)
		wantNoLoad(t, "no edit's seal between", holding(slices.Concat(whole, rest, whole[:20])), api.ErrCorrupt)
	}
}

func TestP19_1LoadOfRottenSectors(t *testing.T) {
	o := with(t, some()[1:]...)
	for sector := range (len(file(o.f)) + 63) / 64 {
		for _, x := range []byte{1, 9, 200, 255} {
			o.f.Rot(fileName, sector, x)
			wantNoLoad(t, fmt.Sprint("sector ", sector), o.f, api.ErrCorrupt)
			wantNoLoad(t, fmt.Sprint("sector ", sector), o.f.Crash(0, nil), api.ErrCorrupt)
			o.f.Rot(fileName, sector, x)
		}
	}
	wantLoad(t, "whole again", o.f, o.want)
}

// wrongFirst gives edits that can't be the first of a file.
func wrongFirst() []api.Edit {
	return []api.Edit{
		{Next: 9, Seq: 1, Dels: nums(1)},
		{Next: 9, Seq: 1, Drops: nums(1)},
		{Next: 9, Seq: 1, Adds: segs(raw(1)), Dels: nums(1)},
		{Next: 9, Seq: 1, Adds: segs(raw(1), sealed(1))},
		{Next: 9, Seq: 1, Adds: segs(sealed(1)), Pars: pars(par(5, 1), par(5, 1))},
		{Next: 9, Seq: 1, Adds: segs(raw(9))},
		{Next: 9, Seq: 1, Adds: segs(sealed(1)), Pars: pars(par(9, 1))},
	}
}

func TestP19_1LoadOfEditsThatCannotBeApplied(t *testing.T) {
	for k, e := range wrongFirst() {
		wantNoLoad(t, fmt.Sprint("first edit ", k), holding(log(t, e)), api.ErrCorrupt)
		wantNoLoad(t, fmt.Sprint("first edit ", k), holding(log(t, e, api.Edit{})), api.ErrCorrupt)
	}
	p := of(t, some()...)
	for k, e := range refused() {
		if edit.Check(e) != api.OK {
			continue
		}
		if _, ok := p.commit(e, false); ok {
			t.Fatalf("edit %d can be applied: the test is wrong", k)
		}
		b := log(t, append(some(), e)...)
		for _, b := range [][]byte{b, append(bytes.Clone(b), log(t, api.Edit{})...), append(bytes.Clone(b), 1, 2)} {
			f := holding(b)
			wantNoLoad(t, fmt.Sprint("edit ", k), f, api.ErrCorrupt)
			if !bytes.Equal(file(f), b) {
				t.Fatal("ErrCorrupt changed the file")
			}
		}
	}
}

// Of the first edit, it doesn't count whether the segments that its Pars name are there; of a later one, it does.
func TestP19_1LoadOfParsWhoseSegmentsAreGone(t *testing.T) {
	for _, e := range []api.Edit{
		{Next: 9, Seq: 1, Pars: pars(par(5, 1))},
		{Next: 9, Seq: 1, Adds: segs(sealed(1)), Pars: pars(par(5, 1, 2), par(6, 3, 1, 8))},
		{Next: 9, Seq: 1, Pars: pars(par(5, 100))},
	} {
		f := holding(log(t, e))
		o := &both{f: f, m: wantLoad(t, "a first edit", f, of(t, e)), want: of(t, e)}
		o.rewrites(t)
		o.refuses(t, api.Edit{Pars: pars(par(7, 2))})
		o.commits(t, api.Edit{Drops: nums(5), Next: 101})
		wantLoad(t, "a cut end", holding(append(log(t, e), 1)), of(t, e))
		wantNoLoad(t, "a second edit", holding(log(t, api.Edit{Next: 1, Seq: 1}, e)), api.ErrCorrupt)
	}
}

// cut gives a file system, all of it synced, in which a crash cut off the last edit.
func cut(t *testing.T) (*disk.FS, plain) {
	t.Helper()
	l := some()
	b := log(t, l...)
	return holding(b[:len(b)-1]), of(t, l[:len(l)-1]...)
}

// A Load that fails gives none; the edits stay, whatever comes then: a crash amid the rewrite, or another Load.
func TestP19_1LoadFails(t *testing.T) {
	whole, p := cut(t)
	wantLoad(t, "cut", whole, p)
	count := whole.Calls()
	if count < 4 {
		t.Fatalf("%d calls to rewrite a file", count)
	}
	for n := range count {
		f, _ := cut(t)
		f.Fail(n)
		wantNoLoad(t, fmt.Sprint("call ", n), f, api.ErrIO)
		for k := range 6 {
			for _, tails := range [][]int{nil, {1, 1}, {70, 70}, {9999, 9999}} {
				c := f.Crash(k, tails)
				wantNoOthers(t, "a crash", c)
				o := &both{f: c, m: wantLoad(t, "a crash", c, p), want: p}
				o.commits(t, api.Edit{Seq: 10_000})
			}
		}
		wantLoad(t, "once more", f, p)
	}
	f, _ := cut(t)
	b := file(f)
	f.Room(f.Used())
	wantNoLoad(t, "no room", f, api.ErrFull)
	if !bytes.Equal(file(f), b) {
		t.Error("ErrFull changed the file")
	}
	f.Room(room)
	wantLoad(t, "room", f, p)
}

// Files that other calls have left beside it don't count.
func TestP19_1LoadAmongOthers(t *testing.T) {
	for _, end := range []int{0, 1} {
		b := log(t, some()...)
		f := holding(b[:len(b)-end])
		for _, name := range []string{"NEW", "1.raw", "MANIFESTO"} {
			f.Create(name)
			f.Append(name, log(t, api.Edit{Next: 5, Seq: 5}))
		}
		wantLoad(t, "among others", f, of(t, some()[:len(some())-end]...))
		if x, err := f.Read("MANIFESTO"); err != api.OK || len(x) == 0 || !slices.Contains(f.Names(), "1.raw") {
			t.Error("Load changed another file")
		}
	}
}

func TestP19_1LoadOfManyEdits(t *testing.T) {
	l := []api.Edit{{Next: 1, Seq: 1}}
	for n := int64(1); n <= 5000; n++ {
		e := api.Edit{Next: n + 1, Seq: n, Adds: segs(sealed(n))}
		if n > most {
			e.Dels = nums(n - most)
		}
		l = append(l, e)
	}
	want := plain{next: 5001, seq: 5000, segs: upTo(5001-most, 5000, sealed)}
	f := holding(log(t, l...))
	wantLoad(t, "5,000 edits", f, want)
	f = holding(append(log(t, l...), 7))
	wantLoad(t, "5,000 edits and a cut end", f, want)
	wantSingle(t, "5,000 edits and a cut end", f, want)
}
