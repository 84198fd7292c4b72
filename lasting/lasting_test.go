package lasting_test

import (
	"slices"
	"strconv"
	"strings"
	"testing"

	"folio/api"
	"folio/disk"
	"folio/lasting"
)

// holding gives a file system, all of it synced, with a file a.
func holding(text string) *disk.FS {
	f := disk.New(1000)
	f.Create("a")
	f.Append("a", []byte(text))
	f.Sync("a")
	f.SyncDir()
	return f.Crash(0, nil)
}

func read(f *disk.FS) string {
	b, err := f.Read("a")
	if err != api.OK {
		return "none"
	}
	return string(b)
}

func replace(f *disk.FS) api.Errno { return lasting.Replace(f, "spare", "a", []byte("new")) }

func extend(f *disk.FS) api.Errno { return lasting.Extend(f, "a", []byte("new")) }

// wantLasting asks for just these bytes in the one file a, now and after each crash.
func wantLasting(t *testing.T, f *disk.FS, want string) {
	t.Helper()
	for _, n := range []int{0, 1, 2, 9} {
		for _, g := range []*disk.FS{f, f.Crash(n, nil), f.Crash(n, []int{1, 1}), f.Crash(n, []int{99, 99})} {
			if got := read(g); got != want {
				t.Fatalf("the file has %q, not %q", got, want)
			}
			if n == 0 && len(g.Names()) > 1 {
				t.Fatalf("the files are %q", g.Names())
			}
		}
	}
	if names := f.Names(); want != "none" && !slices.Equal(names, []string{"a"}) {
		t.Fatalf("the files are %q", names)
	}
}

func TestReplace(t *testing.T) {
	for _, f := range []*disk.FS{holding("old"), disk.New(1000)} {
		if err := replace(f); err != api.OK {
			t.Fatal(err)
		}
		wantLasting(t, f, "new")
	}
}

func TestReplaceWithASpareThere(t *testing.T) {
	f := holding("old")
	f.Create("spare")
	f.Append("spare", []byte("junk"))
	if err := replace(f); err != api.OK {
		t.Fatal(err)
	}
	wantLasting(t, f, "new")
}

func TestExtend(t *testing.T) {
	f := holding("old")
	if err := extend(f); err != api.OK {
		t.Fatal(err)
	}
	wantLasting(t, f, "oldnew")
	if err := extend(disk.New(9)); err != api.ErrNotFound {
		t.Errorf("of no file: %v", err)
	}
}

// Each modifying call fails in turn: what can be read then is the old or the new, and lasts, and so does what comes behind.
func TestFailures(t *testing.T) {
	for name, one := range map[string]struct {
		call func(f *disk.FS) api.Errno
		want string
	}{
		"Replace": {replace, "new"}, "Extend": {extend, "oldnew"},
	} {
		whole := holding("old")
		if err := one.call(whole); err != api.OK {
			t.Fatalf("%s: %v", name, err)
		}
		for n := range whole.Calls() {
			f := holding("old")
			f.Fail(n)
			if err := one.call(f); err != api.ErrIO {
				t.Fatalf("%s, call %d: %v", name, n, err)
			}
			now := read(f)
			if now != "old" && now != one.want {
				t.Fatalf("%s, call %d: the file has %q", name, n, now)
			}
			wantLasting(t, f, now)
			if err := extend(f); err != api.OK {
				t.Fatalf("%s, call %d: %v behind it", name, n, err)
			}
			wantLasting(t, f, now+"new")
		}
	}
}

func TestWithoutRoom(t *testing.T) {
	f := holding("old")
	f.Room(5)
	for _, call := range []func(f *disk.FS) api.Errno{replace, extend} {
		if err := call(f); err != api.ErrFull {
			t.Errorf("%v", err)
		}
		wantLasting(t, f, "old")
	}
	f.Room(6)
	if err := replace(f); err != api.OK {
		t.Errorf("%v", err)
	}
	wantLasting(t, f, "new")
}

func TestWithManyFiles(t *testing.T) {
	f := disk.New(1000)
	for k := range api.MaxFiles {
		f.Create("f" + strconv.Itoa(k))
	}
	if err := replace(f); err != api.ErrFull || len(f.Names()) != api.MaxFiles {
		t.Errorf("%v, %d files", err, len(f.Names()))
	}
	f.Remove("f0")
	if err := replace(f); err != api.OK || len(f.Names()) != api.MaxFiles || read(f) != "new" {
		t.Errorf("%v, %d files", err, len(f.Names()))
	}
}

func TestWrongNamesAndNone(t *testing.T) {
	f := holding("old")
	if err := lasting.Replace(f, "", "a", nil); err != api.ErrForm {
		t.Errorf("no name of the spare: %v", err)
	}
	if err := lasting.Replace(f, "spare", strings.Repeat("a", 21), nil); err != api.ErrForm {
		t.Errorf("a long name: %v", err)
	}
	wantLasting(t, f, "old")
	if a, b := replace(nil), extend(nil); a != api.ErrNotFound || b != api.ErrNotFound {
		t.Errorf("nil: %v, %v", a, b)
	}
}
