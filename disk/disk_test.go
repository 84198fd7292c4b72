package disk_test

import (
	"bytes"
	"math"
	"slices"
	"strconv"
	"strings"
	"testing"
	"unsafe"

	"folio/api"
	"folio/disk"
)

// told tells all files: their names, ascending, and their bytes.
func told(f *disk.FS) string {
	var s strings.Builder
	for _, name := range f.Names() {
		b, err := f.Read(name)
		if err != api.OK {
			return "a name without a file: " + name
		}
		s.WriteString(name + "=" + string(b) + " ")
	}
	return s.String()
}

func wantErr(t *testing.T, what string, got, want api.Errno) {
	t.Helper()
	if got != want {
		t.Errorf("%s: error %d, not %d", what, got, want)
	}
}

func wantFiles(t *testing.T, what string, f *disk.FS, want string) {
	t.Helper()
	if got := told(f); got != want {
		t.Errorf("%s: %.200q, not %.200q", what, got, want)
	}
}

func wantInt(t *testing.T, what string, got, want int) {
	t.Helper()
	if got != want {
		t.Errorf("%s: %d, not %d", what, got, want)
	}
}

// wantRead tells a file apart from one with other bytes, and from none.
func wantRead(t *testing.T, what string, f *disk.FS, name string, want []byte) {
	t.Helper()
	got, err := f.Read(name)
	if err != api.OK || !bytes.Equal(got, want) {
		t.Errorf("%s: %s has %d bytes, error %d, not %d bytes as they should be", what, name, len(got), err, len(want))
	}
}

// with gives a file system of some room with one file, of which nothing is synced.
func with(t *testing.T, room int, name, text string) *disk.FS {
	t.Helper()
	f := disk.New(room)
	wantErr(t, "Create", f.Create(name), api.OK)
	wantErr(t, "Append", f.Append(name, []byte(text)), api.OK)
	return f
}

// full gives a file system with as many files as there may be, named f0 and so on.
func full(t *testing.T) *disk.FS {
	t.Helper()
	f := disk.New(100)
	for k := range api.MaxFiles {
		wantErr(t, "Create", f.Create("f"+strconv.Itoa(k)), api.OK)
	}
	return f
}

// modifying gives a call of each kind, which is answered OK where there is a file a and room for a byte.
func modifying() map[string]func(f *disk.FS) api.Errno {
	return map[string]func(f *disk.FS) api.Errno{
		"Create":  func(f *disk.FS) api.Errno { return f.Create("c") },
		"Append":  func(f *disk.FS) api.Errno { return f.Append("a", []byte("+")) },
		"Sync":    func(f *disk.FS) api.Errno { return f.Sync("a") },
		"SyncDir": func(f *disk.FS) api.Errno { return f.SyncDir() },
		"Rename":  func(f *disk.FS) api.Errno { return f.Rename("a", "d") },
		"Remove":  func(f *disk.FS) api.Errno { return f.Remove("a") },
	}
}

// wrong gives a call of each own error of each kind, for a file system as spare makes it.
func wrong() map[string]func(f *disk.FS) (got, own api.Errno) {
	return map[string]func(f *disk.FS) (got, own api.Errno){
		"Create ErrForm":     func(f *disk.FS) (api.Errno, api.Errno) { return f.Create("a-b"), api.ErrForm },
		"Append ErrNotFound": func(f *disk.FS) (api.Errno, api.Errno) { return f.Append("q", []byte("+")), api.ErrNotFound },
		"Append ErrFull":     func(f *disk.FS) (api.Errno, api.Errno) { return f.Append("a", make([]byte, 99)), api.ErrFull },
		"Sync ErrNotFound":   func(f *disk.FS) (api.Errno, api.Errno) { return f.Sync("q"), api.ErrNotFound },
		"Rename ErrNotFound": func(f *disk.FS) (api.Errno, api.Errno) { return f.Rename("q", "a"), api.ErrNotFound },
		"Rename ErrForm":     func(f *disk.FS) (api.Errno, api.Errno) { return f.Rename("a", "a/b"), api.ErrForm },
		"Remove ErrNotFound": func(f *disk.FS) (api.Errno, api.Errno) { return f.Remove("q"), api.ErrNotFound },
	}
}

// spare gives a file system in which each modifying call would show: files that are synced in part, or not at all, and
// two pending changes.
func spare(t *testing.T) *disk.FS {
	t.Helper()
	f := with(t, 20, "a", "12")
	f.Sync("a")
	f.SyncDir()
	f.Append("a", []byte("345"))
	f.Create("b")
	f.Append("b", []byte("xyz"))
	f.Rename("b", "e")
	return f
}

// lasts tells what each crash leaves of f, of all tails and of none.
func lasts(f *disk.FS) string {
	all := slices.Repeat([]int{math.MaxInt}, api.MaxFiles)
	s := ""
	for n := range 9 {
		s += told(f.Crash(n, nil)) + "/" + told(f.Crash(n, all)) + "; "
	}
	return s
}

func TestP13_1Example(t *testing.T) {
	f := disk.New(20)
	wantErr(t, "Create a", f.Create("a"), api.OK)
	wantErr(t, "Append abc", f.Append("a", []byte("abc")), api.OK)
	wantErr(t, "Create a-b", f.Create("a-b"), api.ErrForm)
	wantErr(t, "Append to q", f.Append("q", nil), api.ErrNotFound)
	wantErr(t, "Append 18 bytes", f.Append("a", make([]byte, 18)), api.ErrFull)
	wantErr(t, "Rename q", f.Rename("q", ""), api.ErrNotFound)
	wantErr(t, "Rename a", f.Rename("a", ""), api.ErrForm)
	wantFiles(t, "all", f, "a=abc ")
	wantInt(t, "Used", f.Used(), 3)
	wantInt(t, "Calls", f.Calls(), 7)
}

func TestP13_1NewIsEmpty(t *testing.T) {
	f := disk.New(20)
	wantFiles(t, "New", f, "")
	wantInt(t, "Used", f.Used(), 0)
	wantInt(t, "Calls", f.Calls(), 0)
	wantFiles(t, "Crash of New", f.Crash(9, []int{9}), "")
}

func TestP13_1Capacity(t *testing.T) {
	for _, one := range []struct{ room, most int }{
		{math.MinInt, 0}, {-1, 0}, {0, 0}, {1, 1}, {20, 20}, {api.MaxDisk - 1, api.MaxDisk - 1},
		{api.MaxDisk, api.MaxDisk}, {api.MaxDisk + 1, api.MaxDisk}, {math.MaxInt, api.MaxDisk},
	} {
		set := with(t, 7, "a", "")
		set.Room(one.room)
		for what, f := range map[string]*disk.FS{"New": with(t, one.room, "a", ""), "Room": set} {
			what += " " + strconv.Itoa(one.room)
			wantErr(t, what+", one too many", f.Append("a", make([]byte, one.most+1)), api.ErrFull)
			wantErr(t, what+", all", f.Append("a", make([]byte, one.most)), api.OK)
			wantErr(t, what+", none more", f.Append("a", nil), api.OK)
			wantErr(t, what+", one more", f.Append("a", []byte{1}), api.ErrFull)
			wantInt(t, what, f.Used(), one.most)
		}
	}
}

func isNameByte(c int) bool {
	return strings.ContainsRune("abcdefghijklmnopqrstuvwxyzABCDEFGHIJKLMNOPQRSTUVWXYZ0123456789.", rune(c)) && c < 128
}

func TestP13_1NamesOfFiles(t *testing.T) {
	names := map[string]api.Errno{
		"": api.ErrForm, ".": api.OK, "..": api.OK, "12.raw": api.OK, "MANIFEST": api.OK, "a b": api.ErrForm, "é": api.ErrForm,
		"a\x00": api.ErrForm, "ａ": api.ErrForm, "٣": api.ErrForm,
		strings.Repeat("z", 20): api.OK, strings.Repeat("z", 21): api.ErrForm, strings.Repeat("z", 1<<20): api.ErrForm,
		strings.Repeat("z", 19) + "-": api.ErrForm, strings.Repeat("z", 18) + "é": api.ErrForm,
	}
	for c := range 256 {
		for _, name := range []string{string([]byte{byte(c)}), string([]byte{byte(c), 'a'}), string([]byte{'a', byte(c)})} {
			names[name] = api.ErrForm
			if isNameByte(c) {
				names[name] = api.OK
			}
		}
	}
	for name, want := range names {
		f := disk.New(9)
		wantErr(t, "Create "+name, f.Create(name), want)
		g := with(t, 9, "from", "1")
		wantErr(t, "Rename to "+name, g.Rename("from", name), want)
		if want == api.OK {
			wantFiles(t, "Create", f, name+"= ")
			wantFiles(t, "Rename", g, name+"=1 ")
		} else {
			wantFiles(t, "Create", f, "")
			wantFiles(t, "Rename", g, "from=1 ")
			wantErr(t, "Append to "+name, f.Append(name, nil), api.ErrNotFound)
		}
	}
}

func TestP13_1CreateOverAFile(t *testing.T) {
	f := with(t, 5, "a", "12345")
	f.Sync("a")
	wantErr(t, "Create", f.Create("a"), api.OK)
	wantFiles(t, "Create", f, "a= ")
	wantInt(t, "Used", f.Used(), 0)
	wantErr(t, "Append", f.Append("a", []byte("xy")), api.OK)
	wantFiles(t, "the old one came", f.Crash(1, []int{1}), "a=12345 ")
	wantFiles(t, "the new one came, of which nothing is synced", f.Crash(2, []int{1}), "a=x ")
}

func TestP13_1ManyFiles(t *testing.T) {
	f := full(t)
	wantErr(t, "one more", f.Create("g"), api.ErrFull)
	wantErr(t, "one more, named wrongly", f.Create("g-"), api.ErrForm)
	wantErr(t, "one that is there", f.Create("f7"), api.OK)
	wantErr(t, "another name", f.Rename("f7", "g"), api.OK)
	wantErr(t, "the old name", f.Create("f7"), api.ErrFull)
	wantInt(t, "files", len(f.Names()), api.MaxFiles)
	wantErr(t, "a name that is there", f.Rename("g", "f8"), api.OK)
	wantErr(t, "one for it", f.Create("f7"), api.OK)
	wantErr(t, "one more", f.Create("g"), api.ErrFull)
	wantErr(t, "one less", f.Remove("f0"), api.OK)
	wantErr(t, "one for it", f.Create("g"), api.OK)
	wantErr(t, "one more", f.Create("f0"), api.ErrFull)
	wantErr(t, "one more, in what a crash leaves", f.Crash(999, nil).Create("f0"), api.ErrFull)
	wantErr(t, "one more, where none lasts", f.Crash(0, nil).Create("f0"), api.OK)
}

func TestP13_1Append(t *testing.T) {
	f := disk.New(9)
	f.Create("a")
	f.Create("b")
	for _, text := range []string{"1", "", "23", "4"} {
		wantErr(t, "Append", f.Append("a", []byte(text)), api.OK)
		wantErr(t, "Append", f.Append("b", []byte(text)), api.OK)
	}
	wantFiles(t, "Append", f, "a=1234 b=1234 ")
	wantErr(t, "two bytes, for one of which there is room", f.Append("b", []byte("56")), api.ErrFull)
	wantErr(t, "no such file, and no room", f.Append("c", []byte("56")), api.ErrNotFound)
	wantFiles(t, "Append", f, "a=1234 b=1234 ")
	wantErr(t, "the last byte", f.Append("b", []byte("5")), api.OK)
	f.Remove("a")
	wantInt(t, "Used", f.Used(), 5)
	wantErr(t, "the room of the one that went", f.Append("b", []byte("6789")), api.OK)
	wantFiles(t, "Append", f, "b=123456789 ")
}

func TestP13_1Sync(t *testing.T) {
	f := with(t, 99, "a", "12")
	f.SyncDir()
	wantFiles(t, "no byte is synced", f.Crash(0, nil), "a= ")
	wantErr(t, "Sync", f.Sync("a"), api.OK)
	f.Append("a", []byte("34"))
	wantFiles(t, "two bytes are synced", f.Crash(0, nil), "a=12 ")
	wantErr(t, "Sync", f.Sync("q"), api.ErrNotFound)
	wantFiles(t, "two bytes are synced", f.Crash(0, nil), "a=12 ")
	wantErr(t, "Sync", f.Sync("a"), api.OK)
	wantErr(t, "Sync", f.Sync("a"), api.OK)
	wantFiles(t, "all are synced", f.Crash(0, nil), "a=1234 ")
}

func TestP13_1SyncOfAFileThatIsRenamed(t *testing.T) {
	f := with(t, 99, "a", "12")
	f.SyncDir()
	f.Rename("a", "b")
	f.Append("b", []byte("3"))
	f.Sync("b")
	f.Append("b", []byte("4"))
	wantFiles(t, "under the old name", f.Crash(0, []int{1}), "a=1234 ")
	wantFiles(t, "under the old name", f.Crash(0, nil), "a=123 ")
	wantFiles(t, "under the new name", f.Crash(1, nil), "b=123 ")
}

func TestP13_1SyncDir(t *testing.T) {
	f := with(t, 99, "a", "")
	f.Create("b")
	wantFiles(t, "no SyncDir", f.Crash(0, nil), "")
	wantErr(t, "SyncDir", f.SyncDir(), api.OK)
	wantFiles(t, "two files", f.Crash(0, nil), "a= b= ")
	f.Remove("a")
	f.Create("c")
	wantFiles(t, "none of the later ones", f.Crash(0, nil), "a= b= ")
	wantFiles(t, "one of the later ones", f.Crash(1, nil), "b= ")
	wantErr(t, "SyncDir", f.SyncDir(), api.OK)
	wantErr(t, "SyncDir", f.SyncDir(), api.OK)
	wantFiles(t, "all", f.Crash(0, nil), "b= c= ")
	wantErr(t, "SyncDir of no file", disk.New(0).SyncDir(), api.OK)
}

func TestP13_1Rename(t *testing.T) {
	f := with(t, 99, "a", "12")
	f.Create("b")
	f.Append("b", []byte("xyz"))
	wantErr(t, "Rename", f.Rename("a", "c"), api.OK)
	wantFiles(t, "Rename", f, "b=xyz c=12 ")
	wantErr(t, "Rename of the old name", f.Rename("a", "c"), api.ErrNotFound)
	wantErr(t, "Rename over a file", f.Rename("c", "b"), api.OK)
	wantFiles(t, "Rename over a file", f, "b=12 ")
	wantInt(t, "Used", f.Used(), 2)
	wantErr(t, "Rename to itself", f.Rename("b", "b"), api.OK)
	wantFiles(t, "Rename to itself", f, "b=12 ")
	wantErr(t, "no file, and no name", f.Rename("q", "?"), api.ErrNotFound)
	wantErr(t, "neither of them", f.Rename("", ""), api.ErrNotFound)
	wantErr(t, "a wrong name that is as long as the file's", f.Rename("b", "-"), api.ErrForm)
	wantErr(t, "Append", f.Append("b", []byte("3")), api.OK)
	wantFiles(t, "all", f, "b=123 ")
}

func TestP13_1RenameToItselfIsPending(t *testing.T) {
	f := with(t, 99, "a", "12")
	f.SyncDir()
	f.Rename("a", "a")
	f.Remove("a")
	wantFiles(t, "the first change", f.Crash(1, []int{9}), "a=12 ")
	wantFiles(t, "both changes", f.Crash(2, []int{9}), "")
}

func TestP13_1Remove(t *testing.T) {
	f := with(t, 99, "a", "12")
	f.Create("b")
	wantErr(t, "Remove", f.Remove("a"), api.OK)
	wantErr(t, "Remove again", f.Remove("a"), api.ErrNotFound)
	wantErr(t, "Remove of no name", f.Remove(""), api.ErrNotFound)
	wantFiles(t, "Remove", f, "b= ")
	wantErr(t, "Append", f.Append("a", nil), api.ErrNotFound)
	wantErr(t, "Sync", f.Sync("a"), api.ErrNotFound)
	wantErr(t, "Create", f.Create("a"), api.OK)
	wantFiles(t, "another one", f, "a= b= ")
}

func TestP13_1Read(t *testing.T) {
	f := with(t, 99, "a", "12")
	f.Sync("a")
	f.Append("a", []byte("3"))
	f.Create("b")
	wantRead(t, "synced or not", f, "a", []byte("123"))
	wantRead(t, "no bytes", f, "b", nil)
	for _, name := range []string{"q", "", "A", "a ", "a.", strings.Repeat("a", 1000)} {
		b, err := f.Read(name)
		wantErr(t, "Read "+name[:min(9, len(name))], err, api.ErrNotFound)
		wantInt(t, "Read", len(b), 0)
	}
	wantInt(t, "Calls", f.Calls(), 5)
}

func TestP13_1Names(t *testing.T) {
	want := []string{".", "..", ".a", "0", "1", "10", "12.raw", "2", "9", "A", "AA", "Ab", "Z", "Z.", "a", "a.", "a0", "aA", "aa", "b", "z"}
	f := disk.New(9)
	for k := range want {
		f.Create(want[k*8%len(want)])
	}
	if got := f.Names(); !slices.Equal(got, want) {
		t.Errorf("Names: %v, not %v", got, want)
	}
	if got := f.Crash(99, nil).Names(); !slices.Equal(got, want) {
		t.Errorf("Names: %v, not %v", got, want)
	}
}

func TestP13_1ErrorsChangeNothing(t *testing.T) {
	for what, call := range wrong() {
		f := spare(t)
		was, calls := lasts(f), f.Calls()
		got, own := call(f)
		wantErr(t, what, got, own)
		wantFiles(t, what, f, "a=12345 e=xyz ")
		wantInt(t, what+": Used", f.Used(), 8)
		wantInt(t, what+": Calls", f.Calls(), calls+1)
		if now := lasts(f); now != was {
			t.Errorf("%s: a crash leaves %q, not %q", what, now, was)
		}
	}
}

func TestP13_1FullChangesNothing(t *testing.T) {
	f := full(t)
	f.SyncDir()
	wantErr(t, "Create", f.Create("g"), api.ErrFull)
	f.Remove("f0")
	wantInt(t, "the only pending change", len(f.Crash(1, nil).Names()), api.MaxFiles-1)
}

// TestP13_1NamesAreKeptApart: a name that is a piece of a long text shouldn't keep the text.
func TestP13_1NamesAreKeptApart(t *testing.T) {
	text := strings.Repeat("0123456789", 1000)
	f := disk.New(9)
	f.Create(text[:10])
	if unsafe.StringData(f.Names()[0]) == unsafe.StringData(text) {
		t.Error("Create keeps the text that it was given")
	}
	f.Rename(text[:10], text[:9])
	if unsafe.StringData(f.Names()[0]) == unsafe.StringData(text) {
		t.Error("Rename keeps the text that it was given")
	}
}

// spoil changes all bytes of a list, also those of its spare capacity.
func spoil(b []byte) {
	b = b[:cap(b)]
	for k := range b {
		b[k] ^= 0x55
	}
}

func TestP13_1SharesNothing(t *testing.T) {
	f := disk.New(999)
	f.Create("a")
	f.Create("empty")
	text := append(make([]byte, 0, 9), "abc"...)
	whole := slices.Clone(text[:9])
	for range 3 {
		f.Append("a", text)
	}
	if !bytes.Equal(text[:9], whole) {
		t.Errorf("Append changed what it was given: %q", text[:9])
	}
	spoil(text)
	wantFiles(t, "after the argument changed", f, "a=abcabcabc empty= ")
	one, _ := f.Read("a")
	two, _ := f.Read("a")
	none, _ := f.Read("empty")
	spoil(one)
	spoil(none)
	if string(two) != "abcabcabc" {
		t.Errorf("another answer changed: %q", two)
	}
	f.Append("a", []byte("def"))
	f.Append("empty", []byte("x"))
	spoil(two)
	wantFiles(t, "after the answers changed", f, "a=abcabcabcdef empty=x ")
	names := f.Names()
	names[0] = "q"
	clear(names[:cap(names)])
	wantFiles(t, "after the names changed", f, "a=abcabcabcdef empty=x ")
}

func TestP13_1LongFile(t *testing.T) {
	f := with(t, api.MaxDisk, "a", "")
	want := make([]byte, 0, api.MaxDisk)
	piece := []byte(strings.Repeat("0123456", 11))
	for len(want)+len(piece) <= api.MaxDisk {
		wantErr(t, "Append", f.Append("a", piece), api.OK)
		want = append(want, piece...)
	}
	wantErr(t, "Append", f.Append("a", piece), api.ErrFull)
	wantRead(t, "all", f, "a", want)
	f.Sync("a")
	f.SyncDir()
	wantRead(t, "all", f.Crash(0, nil), "a", want)
}
