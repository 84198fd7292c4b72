package raw_test

import (
	"bytes"
	"math"
	"slices"
	"strconv"
	"testing"

	"folio/api"
	"folio/crc"
	"folio/disk"
	"folio/raw"
)

// cut gives a file system, all of it synced, in which a crash cut off the seventh record behind six.
func cut() *disk.FS {
	b := log(append(six(), seventh()))
	return holding(b[:len(b)-1])
}

// wantLasting asks for a segment of l, in the one file that is there, now and after each crash.
func wantLasting(t *testing.T, f *disk.FS, l []api.Record) {
	t.Helper()
	for _, g := range []*disk.FS{f, f.Crash(0, nil), f.Crash(9, nil), f.Crash(9, []int{9999})} {
		wantNames(t, g, name)
		wantFile(t, g, name, log(l))
	}
}

func TestP15_1OpenExample(t *testing.T) {
	f, s := made(t, six())
	s.Sync()
	f.SyncDir()
	wantAppend(t, s, seventh(), 6)
	whole := append(six(), seventh())
	for tail := range len(log(whole)) - len(log(six())) + 2 {
		l := six()
		if tail >= len(log(whole))-len(log(six())) {
			l = whole
		}
		c := f.Crash(0, []int{tail})
		x := wantOpen(t, c, l)
		wantLasting(t, c, l)
		wantAppend(t, x, put(9, "nine", "9"), len(l))
		wantErr(t, "Sync", x.Sync(), api.OK)
		l = append(l, put(9, "nine", "9"))
		wantLasting(t, c, l)
		wantSeg(t, x, l)
		wantOpen(t, c.Crash(0, nil), l)
	}
}

func TestP15_1OpenOfEachBeginning(t *testing.T) {
	b := log(six())
	k := 0
	for n := range len(b) + 1 {
		if k < 6 && len(log(six()[:k+1])) <= n {
			k++
		}
		f := holding(b[:n])
		s := wantOpen(t, f, six()[:k])
		wantLasting(t, f, six()[:k])
		wantAppend(t, s, seventh(), k)
		wantFile(t, f, name, log(append(six()[:k], seventh())))
	}
}

// What comes behind the records counts as cut off if it may be the beginning of one.
func TestP15_1OpenOfOtherEnds(t *testing.T) {
	for _, l := range [][]api.Record{nil, six()} {
		for _, rest := range [][]byte{{0}, make([]byte, 11), crc.Seal(make([]byte, 100))[:12], crc.Seal(make([]byte, 5000))[:5011]} {
			f := holding(append(log(l), rest...))
			s := wantOpen(t, f, l)
			wantLasting(t, f, l)
			wantAppend(t, s, seventh(), len(l))
			wantSeg(t, s, append(l, seventh()))
		}
	}
}

func TestP15_1OpenOfAWholeFile(t *testing.T) {
	for k := range 7 {
		f := holding(log(six()[:k]))
		f.Fail(0)
		f.Room(0)
		s := wantOpen(t, f, six()[:k])
		if f.Calls() != 0 {
			t.Error("Open changed a file of which nothing is cut off")
		}
		f.Fail(-1)
		f.Room(9999)
		wantAppend(t, s, seventh(), k)
		wantErr(t, "Sync", s.Sync(), api.OK)
		wantOpen(t, f.Crash(0, nil), append(six()[:k], seventh()))
	}
}

func TestP15_1OpenNotFound(t *testing.T) {
	f, _ := made(t, six())
	f.Rename(name, "12.rax")
	f.Create("12")
	f.Create("012.raw")
	f.Fail(0)
	for _, num := range []int64{math.MinInt64, -12, -1, 0, 1, 11, 12, 13, 120, mostNum, mostNum + 1, math.MaxInt64} {
		for _, g := range []*disk.FS{f, disk.New(9), nil} {
			if s, err := raw.Open(g, num); s != nil || err != api.ErrNotFound {
				t.Errorf("Open %d: error %d", num, err)
			}
		}
	}
}

// wantCorrupt asks for ErrCorrupt, and for a file system that is left as it is.
func wantCorrupt(t *testing.T, b []byte) {
	t.Helper()
	f := holding(b)
	wantNoOpen(t, f, api.ErrCorrupt)
	wantFile(t, f, name, b)
	if f.Calls() != 0 {
		t.Error("Open changed a corrupt file")
	}
}

func TestP15_1OpenOfCorruptFiles(t *testing.T) {
	b := log(six())
	for at := range b {
		changed := bytes.Clone(b)
		changed[at] ^= byte(1 + at%255)
		wantCorrupt(t, changed)
	}
	for _, rest := range [][]byte{make([]byte, 12), crc.Seal(nil), crc.Seal([]byte("\x02\x01\x01k\x00")), crc.Seal([]byte("\x01\x00\x01k\x00"))} {
		wantCorrupt(t, rest)
		wantCorrupt(t, append(rest, b...))
		wantCorrupt(t, slices.Concat(b, rest))
		wantCorrupt(t, slices.Concat(b, rest, b[:20]))
	}
	f := holding(b)
	for sector := range (len(b) + 63) / 64 {
		f.Rot(name, sector, 200)
		wantNoOpen(t, f, api.ErrCorrupt)
		f.Rot(name, sector, 200)
	}
	wantOpen(t, f, six())
}

// calls is how many modifying calls it takes to rewrite a file.
func calls(t *testing.T) int {
	t.Helper()
	f := cut()
	wantOpen(t, f, six())
	return f.Calls()
}

// An Open that fails gives no segment and leaves no other file; the records stay, whatever comes then: a crash amid the
// rewrite (with as many of the changes of the directory as were made until then), or another Open.
func TestP15_1OpenFails(t *testing.T) {
	count := calls(t)
	if count < 2 {
		t.Fatalf("%d calls to rewrite a file", count)
	}
	for n := range count {
		f := cut()
		f.Fail(n)
		wantNoOpen(t, f, api.ErrIO)
		wantNames(t, f, name)
		for k := range 9 {
			for _, tails := range [][]int{nil, {9999, 9999}, {1, 1}} {
				c := f.Crash(k, tails)
				s := wantOpen(t, c, six())
				wantLasting(t, c, six())
				wantAppend(t, s, seventh(), 6)
				wantErr(t, "Sync", s.Sync(), api.OK)
				wantLasting(t, c, append(six(), seventh()))
			}
		}
		s := wantOpen(t, f, six())
		wantAppend(t, s, seventh(), 6)
		wantErr(t, "Sync", s.Sync(), api.OK)
		wantLasting(t, f, append(six(), seventh()))
	}
	f := cut()
	f.Fail(count)
	wantOpen(t, f, six())
	wantErr(t, "SyncDir", f.SyncDir(), api.ErrIO)
}

func TestP15_1OpenWithoutRoom(t *testing.T) {
	f := cut()
	used := f.Used()
	for _, room := range []int{0, used, used + len(log(six())) - 1} {
		f.Room(room)
		wantNoOpen(t, f, api.ErrFull)
		wantNames(t, f, name)
		if f.Used() != used {
			t.Errorf("%d bytes in use, not %d", f.Used(), used)
		}
	}
	f.Room(used + len(log(six())))
	wantOpen(t, f, six())
	wantLasting(t, f, six())
}

func TestP15_1OpenAmongManyFiles(t *testing.T) {
	f := cut()
	for k := range 149 {
		f.Create("f" + strconv.Itoa(k))
	}
	wantNoOpen(t, f, api.ErrFull)
	if len(f.Names()) != 150 {
		t.Errorf("%d files", len(f.Names()))
	}
	f.Remove("f0")
	wantOpen(t, f, six())
	if len(f.Names()) != 149 {
		t.Errorf("%d files", len(f.Names()))
	}
}

// The names of the numbers with the most digits are as long as those of files may be.
func TestP15_1OpenOfEachNumber(t *testing.T) {
	for _, num := range []int64{1, 9, 10, mostNum - 1, mostNum} {
		f := disk.New(9999)
		s, err := raw.Create(f, num)
		wantErr(t, "Create", err, api.OK)
		wantAppend(t, s, seventh(), 0)
		f.Append(raw.Name(num), []byte("cut"))
		x, err := raw.Open(f, num)
		wantErr(t, "Open", err, api.OK)
		wantSeg(t, x, []api.Record{seventh()})
		wantNames(t, f, raw.Name(num))
		wantFile(t, f, raw.Name(num), log([]api.Record{seventh()}))
	}
}

// Other segments, whole or cut off too, are left alone.
func TestP15_1OpenAmongOthers(t *testing.T) {
	f := cut()
	others := map[string][]byte{"1.raw": log(six()), "120.raw": log(six())[:50], "12.seg": {1}, "MANIFEST": {2}, "NEW": {3}, "12.par": {4}}
	for name, b := range others {
		f.Create(name)
		f.Append(name, b)
	}
	wantOpen(t, f, six())
	for name, b := range others {
		wantFile(t, f, name, b)
	}
	if len(f.Names()) != len(others)+1 {
		t.Errorf("the files are %q", f.Names())
	}
}
