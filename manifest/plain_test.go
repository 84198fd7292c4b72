package manifest_test

import (
	"bytes"
	"cmp"
	"fmt"
	"slices"
	"testing"

	"folio/api"
	"folio/disk"
	"folio/edit"
	"folio/manifest"
)

const (
	fileName = "MANIFEST"
	// Held apart from the constants of api, as the chapter tells them.
	most    = 60
	mostNum = 1 << 50
	room    = 1 << 20
)

// raw and sealed give a segment each.
func raw(num int64) api.Seg    { return api.Seg{Num: num, Size: int(num % 1000)} }
func sealed(num int64) api.Seg { return api.Seg{Num: num, Sealed: true, Size: int(num % 1000), Sum: 7} }

func segs(l ...api.Seg) []api.Seg { return l }

func pars(l ...api.Par) []api.Par { return l }

func nums(l ...int64) []int64 { return l }

func par(group int64, nums ...int64) api.Par {
	p := api.Par{Group: group, Nums: nums, Size: int(group % 1000), Sum: 9}
	for _, n := range nums {
		p.Sizes = append(p.Sizes, int(n%1000))
	}
	return p
}

// upTo gives a segment or a group each for the numbers from first to last.
func upTo[T any](first, last int64, one func(int64) T) []T {
	var l []T
	for n := first; n <= last; n++ {
		l = append(l, one(n))
	}
	return l
}

// plain is what a manifest should be. Its lists are ascending.
type plain struct {
	next, seq int64
	segs      []api.Seg
	pars      []api.Par
}

func fresh() plain { return plain{next: 1, seq: 1} }

func (p plain) told() string { return fmt.Sprint(p.next, p.seq, p.segs, p.pars) }

func distinct(l []int64) bool {
	count := map[int64]int{}
	for _, n := range l {
		count[n]++
	}
	return len(count) == len(l)
}

// replaced gives l without those of the numbers gone, and with the added ones; and whether this can be done.
func replaced[T any](l []T, gone []int64, added []T, next int64, num func(T) int64) ([]T, bool) {
	ok := distinct(gone)
	for _, n := range gone {
		ok = ok && slices.ContainsFunc(l, func(one T) bool { return num(one) == n })
	}
	l = slices.DeleteFunc(slices.Clone(l), func(one T) bool { return slices.Contains(gone, num(one)) })
	l = append(l, added...)
	slices.SortFunc(l, func(x, y T) int { return cmp.Compare(num(x), num(y)) })
	var all []int64
	for _, one := range l {
		all = append(all, num(one))
	}
	for _, one := range added {
		ok = ok && num(one) < next
	}
	return l, ok && distinct(all) && len(l) <= most
}

// commit gives what p is after e, and whether e can be applied. The first edit of a file is held apart.
func (p plain) commit(e api.Edit, first bool) (plain, bool) {
	ok := edit.Check(e) == api.OK
	after := p
	if e.Next != 0 {
		after.next = e.Next
	}
	if e.Seq != 0 {
		after.seq = e.Seq
	}
	ok = ok && after.next >= p.next && after.seq >= p.seq
	var fine bool
	after.segs, fine = replaced(p.segs, e.Dels, e.Adds, after.next, func(s api.Seg) int64 { return s.Num })
	ok = ok && fine
	after.pars, fine = replaced(p.pars, e.Drops, e.Pars, after.next, func(p api.Par) int64 { return p.Group })
	ok = ok && fine
	for _, one := range e.Pars {
		for _, n := range one.Nums {
			ok = ok && (first || slices.ContainsFunc(after.segs, func(s api.Seg) bool { return s.Num == n && s.Sealed }))
		}
	}
	if !ok {
		return p, false
	}
	return after, true
}

// of gives what the edits of a log come to.
func of(t *testing.T, l ...api.Edit) plain {
	t.Helper()
	var p plain
	for k, e := range l {
		after, ok := p.commit(e, k == 0)
		if !ok {
			t.Fatalf("edit %d can't be applied: the test is wrong", k)
		}
		p = after
	}
	return p
}

func told(m *manifest.Manifest) string { return fmt.Sprint(m.Next(), m.Seq(), m.Segs(), m.Pars()) }

// log gives the bytes of a file of these edits.
func log(t *testing.T, l ...api.Edit) []byte {
	t.Helper()
	var b []byte
	for _, e := range l {
		one, err := edit.Encode(e)
		if err != api.OK {
			t.Fatalf("Encode of %v: %d: the test is wrong", e, err)
		}
		b = append(b, one...)
	}
	return b
}

// holding gives a file system, all of it synced, with just the file MANIFEST.
func holding(b []byte) *disk.FS {
	f := disk.New(room)
	f.Create(fileName)
	f.Append(fileName, b)
	f.Sync(fileName)
	f.SyncDir()
	return f.Crash(0, nil)
}

func file(f *disk.FS) []byte {
	b, _ := f.Read(fileName)
	return b
}

func wantErr(t *testing.T, what string, got, want api.Errno) {
	t.Helper()
	if got != want {
		t.Fatalf("%s: error %d, not %d", what, got, want)
	}
}

func wantState(t *testing.T, what string, m *manifest.Manifest, want plain) {
	t.Helper()
	if got := told(m); got != want.told() {
		t.Fatalf("%s: %s, not %s", what, got, want.told())
	}
}

func wantNames(t *testing.T, what string, f *disk.FS, want ...string) {
	t.Helper()
	if got := f.Names(); !slices.Equal(got, want) {
		t.Fatalf("%s: the files are %q, not %q", what, got, want)
	}
}

// wantNoOthers asks for no files but those that a rewrite writes.
func wantNoOthers(t *testing.T, what string, f *disk.FS) {
	t.Helper()
	for _, name := range f.Names() {
		if name != fileName && name != "NEW" {
			t.Fatalf("%s: the files are %q", what, f.Names())
		}
	}
}

func wantLoad(t *testing.T, what string, f *disk.FS, want plain) *manifest.Manifest {
	t.Helper()
	m, err := manifest.Load(f)
	if err != api.OK || m == nil {
		t.Fatalf("%s: Load: error %d, a manifest: %v", what, err, m != nil)
	}
	wantState(t, what, m, want)
	return m
}

func wantNoLoad(t *testing.T, what string, f *disk.FS, want api.Errno) {
	t.Helper()
	if m, err := manifest.Load(f); m != nil || err != want {
		t.Fatalf("%s: Load: error %d, not %d; a manifest: %v", what, err, want, m != nil)
	}
}

// wantSingle asks for a file of one edit, which alone makes the state.
func wantSingle(t *testing.T, what string, f *disk.FS, want plain) {
	t.Helper()
	l, size, ok := edit.Scan(file(f))
	if !ok || len(l) != 1 || size != len(file(f)) {
		t.Fatalf("%s: %d edits in the file, %v", what, len(l), ok)
	}
	if got := of(t, l...); got.told() != want.told() {
		t.Fatalf("%s: the file tells %s, not %s", what, got.told(), want.told())
	}
}

// both is a manifest, its file system, and what it should be.
type both struct {
	f    *disk.FS
	m    *manifest.Manifest
	want plain
}

func made(t *testing.T) *both {
	t.Helper()
	f := disk.New(room)
	m, err := manifest.Create(f)
	wantErr(t, "Create", err, api.OK)
	return &both{f: f, m: m, want: fresh()}
}

// with gives a manifest after these edits.
func with(t *testing.T, l ...api.Edit) *both {
	t.Helper()
	o := made(t)
	for _, e := range l {
		o.commits(t, e)
	}
	return o
}

// commits asks Commit for OK, for just one more edit in the file, and for a state that a crash doesn't take away.
func (o *both) commits(t *testing.T, e api.Edit) {
	t.Helper()
	after, ok := o.want.commit(e, false)
	if !ok {
		t.Fatalf("%v can't be applied: the test is wrong", e)
	}
	b := append(file(o.f), log(t, e)...)
	wantErr(t, "Commit of "+fmt.Sprint(e), o.m.Commit(e), api.OK)
	o.want = after
	wantState(t, "behind Commit", o.m, after)
	c := o.f.Crash(0, nil)
	if !bytes.Equal(file(o.f), b) || !bytes.Equal(file(c), b) {
		t.Fatalf("Commit of %v: %d bytes in the file, %d of them after a crash, not %d as they should be", e, len(file(o.f)), len(file(c)), len(b))
	}
	wantLoad(t, "after a crash", c, after)
}

// refuses asks Commit for ErrForm, and that nothing changes.
func (o *both) refuses(t *testing.T, e api.Edit) {
	t.Helper()
	if _, ok := o.want.commit(e, false); ok {
		t.Fatalf("%v can be applied: the test is wrong", e)
	}
	b := file(o.f)
	wantErr(t, "Commit of "+fmt.Sprint(e), o.m.Commit(e), api.ErrForm)
	wantState(t, "behind ErrForm", o.m, o.want)
	if !bytes.Equal(file(o.f), b) {
		t.Fatalf("Commit of %v, which is ErrForm, changed the file", e)
	}
}

// tries asks Commit for the answer that e should have.
func (o *both) tries(t *testing.T, e api.Edit) bool {
	t.Helper()
	_, ok := o.want.commit(e, false)
	if ok {
		o.commits(t, e)
	} else {
		o.refuses(t, e)
	}
	return ok
}

func (o *both) rewrites(t *testing.T) {
	t.Helper()
	wantErr(t, "Rewrite", o.m.Rewrite(), api.OK)
	wantState(t, "behind Rewrite", o.m, o.want)
	for _, f := range []*disk.FS{o.f, o.f.Crash(0, nil)} {
		wantSingle(t, "behind Rewrite", f, o.want)
		wantLoad(t, "behind Rewrite", f, o.want)
	}
}

// isClosed asks for ErrClosed, whatever the edit, and for a state and a file that stay.
func (o *both) isClosed(t *testing.T) {
	t.Helper()
	b := file(o.f)
	for range 2 {
		for _, e := range []api.Edit{{}, {Next: mostNum, Adds: segs(raw(mostNum - 1))}, {Next: -1}, {Dels: nums(mostNum)}} {
			wantErr(t, "Commit of a closed one", o.m.Commit(e), api.ErrClosed)
		}
		wantErr(t, "Rewrite of a closed one", o.m.Rewrite(), api.ErrClosed)
	}
	wantState(t, "closed", o.m, o.want)
	if !bytes.Equal(file(o.f), b) {
		t.Fatal("a closed manifest changed the file")
	}
}
