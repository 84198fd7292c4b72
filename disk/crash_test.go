package disk_test

import (
	"math"
	"slices"
	"strconv"
	"strings"
	"testing"

	"folio/api"
	"folio/disk"
)

func crashed(t *testing.T) *disk.FS {
	t.Helper()
	f := with(t, 100, "a", "12")
	f.Sync("a")
	f.SyncDir()
	f.Append("a", []byte("345"))
	f.Create("b")
	f.Append("b", []byte("xyz"))
	f.Rename("b", "a")
	f.Remove("a")
	return f
}

func TestP13_3Example(t *testing.T) {
	f := crashed(t)
	for _, one := range []struct {
		n     int
		tails []int
		want  string
	}{
		{0, []int{2}, "a=1234 "}, {1, []int{1, 2}, "a=123 b=xy "}, {2, []int{2}, "a=xy "}, {3, []int{9}, ""},
	} {
		wantFiles(t, "Crash "+strconv.Itoa(one.n), f.Crash(one.n, one.tails), one.want)
	}
}

func TestP13_3HowManyChanges(t *testing.T) {
	f := crashed(t)
	f.Create("c")
	for n, want := range map[int]string{
		math.MinInt: "a=12345 ", -1: "a=12345 ", 0: "a=12345 ", 1: "a=12345 b=xyz ", 2: "a=xyz ", 3: "", 4: "c= ", 5: "c= ", math.MaxInt: "c= ",
	} {
		wantFiles(t, "Crash "+strconv.Itoa(n), f.Crash(n, []int{9, 9}), want)
	}
}

func TestP13_3HowManyBytes(t *testing.T) {
	f := with(t, 100, "b", "123")
	f.Create("a")
	f.Append("a", []byte("45"))
	f.Sync("b")
	f.Append("b", []byte("678"))
	f.Create("c")
	f.SyncDir()
	for _, one := range []struct {
		tails []int
		want  string
	}{
		{nil, "a= b=123 c= "},
		{[]int{}, "a= b=123 c= "},
		{[]int{1}, "a=4 b=123 c= "},
		{[]int{0, 1}, "a= b=1236 c= "},
		{[]int{-1, 2}, "a= b=12367 c= "},
		{[]int{2, 3, 0}, "a=45 b=123678 c= "},
		{[]int{3, 4, 5}, "a=45 b=123678 c= "},
		{[]int{math.MaxInt, math.MaxInt, math.MaxInt, math.MaxInt}, "a=45 b=123678 c= "},
		{[]int{math.MinInt, math.MinInt}, "a= b=123 c= "},
		{[]int{math.MaxInt - 2, math.MaxInt - 3}, "a=45 b=123678 c= "},
		{[]int{2, -3}, "a=45 b=123 c= "},
	} {
		wantFiles(t, "Crash", f.Crash(0, one.tails), one.want)
	}
}

func TestP13_3ManyFilesAndTails(t *testing.T) {
	f := disk.New(api.MaxDisk)
	tails := make([]int, api.MaxFiles)
	want := make([]string, api.MaxFiles)
	for k := range api.MaxFiles {
		name := "f" + strconv.Itoa(k*77%api.MaxFiles)
		f.Create(name)
		f.Append(name, []byte(strings.Repeat("s", k)))
		f.Sync(name)
		f.Append(name, []byte(strings.Repeat("u", k)))
	}
	f.SyncDir()
	for k, name := range f.Names() {
		b, _ := f.Read(name)
		tails[k] = k % 90
		want[k] = name + "=" + string(b[:min(len(b)/2+tails[k], len(b))]) + " "
	}
	wantFiles(t, "all", f.Crash(0, tails), strings.Join(want, ""))
}

func TestP13_3AllIsSynced(t *testing.T) {
	c := crashed(t).Crash(1, []int{1, 2})
	wantFiles(t, "Crash of what a crash left", c.Crash(0, nil), "a=123 b=xy ")
	wantFiles(t, "no change is pending", c.Crash(9, []int{9, 9}), "a=123 b=xy ")
	c.Append("a", []byte("+"))
	c.Rename("b", "c")
	wantFiles(t, "later ones aren't synced", c.Crash(0, nil), "a=123 b=xy ")
	wantFiles(t, "later ones", c.Crash(1, []int{1}), "a=123+ c=xy ")
}

func TestP13_3CountsBeginAnew(t *testing.T) {
	f := crashed(t)
	calls := f.Calls()
	f.Fail(0)
	c := f.Crash(0, nil)
	wantInt(t, "Calls", c.Calls(), 0)
	wantErr(t, "no failure is pending", c.Append("a", nil), api.OK)
	wantInt(t, "Calls", c.Calls(), 1)
	wantInt(t, "Calls of the old one", f.Calls(), calls)
	wantErr(t, "the failure of the old one", f.SyncDir(), api.ErrIO)
}

func TestP13_3Capacity(t *testing.T) {
	f := with(t, 9, "a", "12345678")
	f.Sync("a")
	f.SyncDir()
	c := f.Crash(0, nil)
	wantErr(t, "a byte", c.Append("a", []byte("9")), api.OK)
	wantErr(t, "one more", c.Append("a", []byte("0")), api.ErrFull)
	f.Room(5)
	c = f.Crash(0, nil)
	wantFiles(t, "more than there is room for", c, "a=12345678 ")
	wantErr(t, "no byte", c.Append("a", nil), api.ErrFull)
	c.Room(9)
	wantErr(t, "the room of the old one", f.Append("a", nil), api.ErrFull)
}

func TestP13_3SharesNothing(t *testing.T) {
	f := with(t, 999, "a", "12")
	f.Sync("a")
	f.Create("b")
	f.SyncDir()
	f.Append("a", []byte("345"))
	f.Create("c")
	was := lasts(f)
	tails := append(make([]int, 0, 9), 1, 2)
	whole := slices.Clone(tails[:9])
	c := f.Crash(1, tails)
	twin := f.Crash(1, tails)
	if !slices.Equal(tails[:9], whole) {
		t.Errorf("Crash changed the tails: %v", tails[:9])
	}
	c.Append("a", []byte("+"))
	c.Append("b", []byte("+"))
	c.Rot("a", 0, 9)
	c.Sync("a")
	c.Remove("c")
	c.Rename("b", "d")
	c.SyncDir()
	wantFiles(t, "the old one", f, "a=12345 b= c= ")
	if now := lasts(f); now != was {
		t.Errorf("a crash of the old one leaves %q, not %q", now, was)
	}
	f.Append("b", []byte("-"))
	f.Rot("a", 0, 77)
	f.Remove("a")
	f.SyncDir()
	wantFiles(t, "another new one", twin, "a=123 b= c= ")
	wantFiles(t, "another new one", twin.Crash(0, nil), "a=123 b= c= ")
	c.Rot("a", 0, 9)
	wantFiles(t, "the new one", c, "a=123+ d=+ ")
}

func TestP13_3ManyPendingChanges(t *testing.T) {
	f := disk.New(9)
	f.Create("a")
	f.SyncDir()
	names := [2]string{"a", "b"}
	for k := range 200_000 {
		wantErr(t, "Rename", f.Rename(names[k%2], names[1-k%2]), api.OK)
	}
	wantFiles(t, "even", f.Crash(100_000, nil), "a= ")
	wantFiles(t, "odd", f.Crash(100_001, nil), "b= ")
	wantFiles(t, "all", f.Crash(math.MaxInt, nil), "a= ")
	wantFiles(t, "none", f.Crash(-9, nil), "a= ")
}

func TestP13_3Nil(t *testing.T) {
	var none *disk.FS
	for range 2 {
		for what, call := range modifying() {
			wantErr(t, what, call(none), api.ErrNotFound)
		}
		wantErr(t, "Create of no name", none.Create(""), api.ErrNotFound)
		b, err := none.Read("a")
		wantErr(t, "Read", err, api.ErrNotFound)
		wantErr(t, "Rot", none.Rot("a", -1, 1), api.ErrNotFound)
		wantInt(t, "Read, Names, Used and Calls", len(b)+len(none.Names())+none.Used()+none.Calls(), 0)
		if none.Crash(0, nil) != nil || none.Crash(-1, []int{1}) != nil {
			t.Error("Crash of a nil one isn't nil")
		}
		none.Fail(0)
		none.Room(9)
	}
}

func TestP13_1ZeroPanicsNowhere(t *testing.T) {
	for what, call := range modifying() {
		var f disk.FS
		call(&f)
		wantInt(t, what, f.Calls(), 1)
		wantInt(t, what, f.Used(), 0)
		wantInt(t, what, len(f.Crash(9, []int{1}).Crash(9, []int{1}).Names()), len(f.Names()))
		f.Rot("a", 0, 1)
		f.Room(1)
		wantErr(t, what, f.Create("a"), api.OK)
		wantErr(t, what, f.Append("a", []byte("1")), api.OK)
	}
}
