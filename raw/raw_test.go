package raw_test

import (
	"bytes"
	"math"
	"slices"
	"strconv"
	"strings"
	"testing"

	"folio/api"
	"folio/crc"
	"folio/disk"
	"folio/raw"
	"folio/record"
)

const (
	num  = 12
	name = "12.raw"
	// Held apart from the constants of api, as the chapter tells it.
	mostNum = 1 << 50
)

func put(seq int64, key, value string) api.Record {
	return api.Record{Kind: 1, Seq: seq, Key: key, Value: value}
}

func six() []api.Record {
	return []api.Record{
		put(1, "a", "one"), put(2, "b", ""), {Seq: 3, Key: "a"}, put(300, "\xff\x00", "\x80"),
		put(mostNum, strings.Repeat("k", 100), strings.Repeat("v", 150)), put(1, "a", "one"),
	}
}

func seventh() api.Record {
	return put(7, "seventh", strings.Repeat("seven", 20))
}

// invalid gives records that Check refuses, by the error.
func invalid() map[api.Errno]api.Record {
	return map[api.Errno]api.Record{
		api.ErrEmptyKey: put(1, "", strings.Repeat("v", 4001)),
		api.ErrTooLarge: put(0, strings.Repeat("k", 101), ""),
		api.ErrForm:     {Seq: 1, Key: "k", Value: "v"},
	}
}

func log(l []api.Record) []byte {
	var b []byte
	for _, r := range l {
		one, _ := record.Encode(r)
		b = append(b, one...)
	}
	return b
}

func wantErr(t *testing.T, what string, got, want api.Errno) {
	t.Helper()
	if got != want {
		t.Fatalf("%s: error %d, not %d", what, got, want)
	}
}

func wantFile(t *testing.T, f *disk.FS, name string, want []byte) {
	t.Helper()
	got, err := f.Read(name)
	if err != api.OK || !bytes.Equal(got, want) {
		t.Fatalf("%s has %d bytes, error %d, not %d bytes as they should be", name, len(got), err, len(want))
	}
}

func wantNames(t *testing.T, f *disk.FS, want ...string) {
	t.Helper()
	if got := f.Names(); !slices.Equal(got, want) {
		t.Fatalf("the files are %q, not %q", got, want)
	}
}

// wantSeg looks at all that s answers.
func wantSeg(t *testing.T, s *raw.Seg, l []api.Record) {
	t.Helper()
	if s.Len() != len(l) || s.Size() != len(log(l)) {
		t.Fatalf("a segment of %d records and %d bytes, not %d and %d", s.Len(), s.Size(), len(l), len(log(l)))
	}
	for at, want := range l {
		if r, err := s.Get(at); r != want || err != api.OK {
			t.Fatalf("Get %d: %.60v, %d; not %.60v", at, r, err, want)
		}
	}
	for _, at := range []int{math.MinInt, -1, len(l), len(l) + 1, math.MaxInt} {
		wantNoRecord(t, s, at, api.ErrRange)
	}
}

func wantNoRecord(t *testing.T, s *raw.Seg, at int, want api.Errno) {
	t.Helper()
	if r, err := s.Get(at); r != (api.Record{}) || err != want {
		t.Fatalf("Get %d: %.60v, %d; not none and %d", at, r, err, want)
	}
}

func wantAppend(t *testing.T, s *raw.Seg, r api.Record, at int) {
	t.Helper()
	if got, err := s.Append(r); got != at || err != api.OK {
		t.Fatalf("Append: %d, error %d; not %d", got, err, at)
	}
}

func wantNoAppend(t *testing.T, s *raw.Seg, r api.Record, want api.Errno) {
	t.Helper()
	if got, err := s.Append(r); got != -1 || err != want {
		t.Fatalf("Append: %d, error %d; not -1 and %d", got, err, want)
	}
}

func wantOpen(t *testing.T, f *disk.FS, l []api.Record) *raw.Seg {
	t.Helper()
	s, err := raw.Open(f, num)
	wantErr(t, "Open", err, api.OK)
	wantSeg(t, s, l)
	return s
}

func wantNoOpen(t *testing.T, f *disk.FS, want api.Errno) {
	t.Helper()
	if s, err := raw.Open(f, num); s != nil || err != want {
		t.Fatalf("Open: error %d and a segment (%v), not %d and none", err, s != nil, want)
	}
}

// made gives a file system with a segment of l, of which nothing is synced.
func made(t *testing.T, l []api.Record) (*disk.FS, *raw.Seg) {
	t.Helper()
	f := disk.New(10_000)
	s, err := raw.Create(f, num)
	wantErr(t, "Create", err, api.OK)
	for k, r := range l {
		wantAppend(t, s, r, k)
	}
	return f, s
}

// holding gives a file system, all of it synced, with the file of a segment that has the bytes b.
func holding(b []byte) *disk.FS {
	f := disk.New(10_000)
	f.Create(name)
	f.Append(name, b)
	f.Sync(name)
	f.SyncDir()
	return f.Crash(0, nil)
}

func TestP15_1Name(t *testing.T) {
	for num, want := range map[int64]string{
		12: "12.raw", 1: "1.raw", 9: "9.raw", 10: "10.raw", mostNum: "1125899906842624.raw", 0: "0.raw", -7: "-7.raw",
		math.MaxInt64: "9223372036854775807.raw", math.MinInt64: "-9223372036854775808.raw",
	} {
		if got := raw.Name(num); got != want {
			t.Errorf("Name %d: %q", num, got)
		}
	}
}

func TestP15_1CreateRange(t *testing.T) {
	f := disk.New(100)
	f.Fail(0)
	for _, g := range []*disk.FS{f, nil} {
		for _, num := range []int64{math.MinInt64, -12, -1, 0, mostNum + 1, math.MaxInt64} {
			if s, err := raw.Create(g, num); s != nil || err != api.ErrRange {
				t.Errorf("Create %d: error %d", num, err)
			}
		}
	}
	if f.Calls() != 0 {
		t.Error("a Create with a wrong number reached the file system")
	}
	f.Fail(-1)
	for k, num := range []int64{1, 2, mostNum - 1, mostNum} {
		s, err := raw.Create(f, num)
		wantErr(t, "Create", err, api.OK)
		wantSeg(t, s, nil)
		wantFile(t, f, strconv.FormatInt(num, 10)+".raw", nil)
		if len(f.Names()) != k+1 {
			t.Errorf("Create made other files: %q", f.Names())
		}
	}
}

func TestP15_1CreateErrorsOfDisk(t *testing.T) {
	wantNone := func(f *disk.FS, want api.Errno) {
		t.Helper()
		if s, err := raw.Create(f, num); s != nil || err != want {
			t.Errorf("Create: error %d and a segment (%v), not %d and none", err, s != nil, want)
		}
	}
	wantNone(nil, api.ErrNotFound)
	f := disk.New(100)
	f.Fail(0)
	wantNone(f, api.ErrIO)
	wantNames(t, f)
	for k := range 150 {
		f.Create("f" + strconv.Itoa(k))
	}
	wantNone(f, api.ErrFull)
	f.Fail(0)
	wantNone(f, api.ErrIO)
}

// A file that has the name already is none of the new segment's.
func TestP15_1CreateAnew(t *testing.T) {
	f, _ := made(t, six())
	s, err := raw.Create(f, num)
	wantErr(t, "Create", err, api.OK)
	wantFile(t, f, name, nil)
	wantSeg(t, s, nil)
	wantAppend(t, s, seventh(), 0)
	wantSeg(t, s, []api.Record{seventh()})
}

func TestP15_1Append(t *testing.T) {
	f, s := made(t, nil)
	l := six()
	for k, r := range l {
		wantAppend(t, s, r, k)
		wantFile(t, f, name, log(l[:k+1]))
		wantSeg(t, s, l[:k+1])
	}
	wantNames(t, f, name)
}

func TestP15_1AppendErrorsChangeNothing(t *testing.T) {
	f, s := made(t, six())
	want := func(err api.Errno, r api.Record) {
		t.Helper()
		wantNoAppend(t, s, r, err)
		wantFile(t, f, name, log(six()))
		wantSeg(t, s, six())
	}
	for err, r := range invalid() {
		want(err, r)
	}
	f.Fail(0)
	want(api.ErrIO, seventh())
	one, _ := record.Encode(seventh())
	f.Room(f.Used() + len(one) - 1)
	want(api.ErrFull, seventh())
	f.Room(0)
	want(api.ErrFull, seventh())
	f.Room(f.Used() + len(one))
	wantAppend(t, s, seventh(), 6)
	wantSeg(t, s, append(six(), seventh()))
	wantNoAppend(t, s, put(1, "k", ""), api.ErrFull)
	f.Remove(name)
	wantNoAppend(t, s, put(1, "k", ""), api.ErrNotFound)
}

// An invalid record doesn't reach the file system, whose errors come second.
func TestP15_1AppendAsksCheckFirst(t *testing.T) {
	f, s := made(t, six())
	calls := f.Calls()
	f.Fail(0)
	f.Room(0)
	for err, r := range invalid() {
		wantNoAppend(t, s, r, err)
	}
	if f.Calls() != calls {
		t.Error("an invalid record reached the file system")
	}
	wantNoAppend(t, s, seventh(), api.ErrIO)
	wantNoAppend(t, s, seventh(), api.ErrFull)
}

func TestP15_1TwoSegments(t *testing.T) {
	f, s := made(t, nil)
	other, err := raw.Create(f, num+1)
	wantErr(t, "Create", err, api.OK)
	l := six()
	for k, r := range l {
		wantAppend(t, s, r, k)
		wantAppend(t, other, l[len(l)-1-k], k)
	}
	wantSeg(t, s, l)
	slices.Reverse(l)
	wantSeg(t, other, l)
	wantNames(t, f, name, "13.raw")
}

func TestP15_1ManyAndLargeRecords(t *testing.T) {
	f := disk.New(1 << 22)
	s, err := raw.Create(f, num)
	wantErr(t, "Create", err, api.OK)
	var l []api.Record
	for k := range 20_000 {
		l = append(l, put(int64(k+1), "key"+strconv.Itoa(k), strings.Repeat("v", k%50)))
		if k%1000 == 0 {
			l[k] = put(1, strings.Repeat("k", 100), strings.Repeat("v", 4000))
		}
		wantAppend(t, s, l[k], k)
	}
	wantFile(t, f, name, log(l))
	x, err := raw.Open(f, num)
	wantErr(t, "Open", err, api.OK)
	for at := 0; at < len(l); at += 499 {
		for _, one := range []*raw.Seg{s, x} {
			if r, err := one.Get(at); r != l[at] || err != api.OK {
				t.Errorf("Get %d: error %d", at, err)
			}
		}
	}
	if x.Len() != len(l) || x.Size() != len(log(l)) || s.Len() != len(l) || s.Size() != len(log(l)) {
		t.Errorf("segments of %d and %d records, not %d", s.Len(), x.Len(), len(l))
	}
}

// A segment of which one byte changed still gives all records but the one that has the byte.
func TestP15_1GetOfEachChangedByte(t *testing.T) {
	f, s := made(t, six())
	b := log(six())
	for at := range b {
		changed := bytes.Clone(b)
		changed[at] ^= byte(1 + at%255)
		f.Create(name)
		f.Append(name, changed)
		for k, r := range six() {
			if len(log(six()[:k])) <= at && at < len(log(six()[:k+1])) {
				wantNoRecord(t, s, k, api.ErrCorrupt)
			} else if got, err := s.Get(k); got != r || err != api.OK {
				t.Fatalf("byte %d changed, and Get %d: error %d", at, k, err)
			}
		}
	}
}

// What Get answers comes from the file at each call: it tells corruption, and the end of it.
func TestP15_1GetOfEachRottenSector(t *testing.T) {
	f, s := made(t, append(six(), seventh()))
	l := append(six(), seventh())
	sectors := (len(log(l)) + 63) / 64
	for x := range 256 {
		for sector := range sectors {
			wantErr(t, "Rot", f.Rot(name, sector, byte(x)), api.OK)
			for k, r := range l {
				got, err := s.Get(k)
				apart := len(log(l[:k+1])) <= sector*64 || len(log(l[:k])) >= sector*64+64
				if apart && (got != r || err != api.OK) {
					t.Fatalf("Get %d: error %d, though another sector is corrupt", k, err)
				}
				if !apart && (got != r || err != api.OK) && (got != (api.Record{}) || err != api.ErrCorrupt) {
					t.Fatalf("Get %d: %.60v, error %d", k, got, err)
				}
			}
			wantErr(t, "Rot", f.Rot(name, sector, byte(x)), api.OK)
		}
	}
	wantSeg(t, s, l)
}

func TestP15_1GetOfALostFile(t *testing.T) {
	f, s := made(t, six())
	b := log(six())
	for n := range len(b) {
		f.Create(name)
		f.Append(name, b[:n])
		for k, r := range six() {
			if len(log(six()[:k+1])) > n {
				wantNoRecord(t, s, k, api.ErrCorrupt)
			} else if got, err := s.Get(k); got != r || err != api.OK {
				t.Fatalf("%d bytes are left, and Get %d: error %d", n, k, err)
			}
		}
	}
	f.Remove(name)
	wantNoRecord(t, s, 0, api.ErrCorrupt)
	wantNoRecord(t, s, -1, api.ErrRange)
	wantNoRecord(t, s, 6, api.ErrRange)
}

// A whole seal in the place of a record isn't enough: it has to be one record's, and to fill the place.
func TestP15_1GetOfWhatIsNoRecord(t *testing.T) {
	one, _ := record.Encode(put(1, "k", strings.Repeat("v", 60)))
	short, _ := record.Encode(put(1, "k", "v"))
	fill := func(b []byte) []byte { return append(b, make([]byte, len(one)-len(b))...) }
	for _, b := range [][]byte{
		crc.Seal(make([]byte, len(one)-12)), fill(short), fill(crc.Seal(nil)), fill(slices.Concat(short, short)), fill(nil),
		append(short, crc.Seal(make([]byte, len(one)-len(short)-12))...),
		append(short, crc.Seal(make([]byte, len(one)))[:len(one)-len(short)]...),
		slices.Concat(short, one[:len(one)-len(short)]),
		log([]api.Record{put(1, "k", "v"), put(1, "k", strings.Repeat("v", 42))}),
	} {
		f, s := made(t, []api.Record{put(1, "k", strings.Repeat("v", 60))})
		f.Create(name)
		f.Append(name, b)
		if len(b) != len(one) {
			t.Fatalf("%d bytes, not %d", len(b), len(one))
		}
		wantNoRecord(t, s, 0, api.ErrCorrupt)
	}
}

func TestP15_1Sync(t *testing.T) {
	f, s := made(t, six()[:4])
	f.SyncDir()
	calls := f.Calls()
	wantErr(t, "Sync", s.Sync(), api.OK)
	if f.Calls() != calls+1 {
		t.Error("Sync is more than one call of the file system")
	}
	wantAppend(t, s, six()[4], 4)
	wantOpen(t, f.Crash(0, nil), six()[:4])
	f.Fail(0)
	wantErr(t, "Sync", s.Sync(), api.ErrIO)
	wantOpen(t, f.Crash(0, nil), six()[:4])
	wantErr(t, "Sync", s.Sync(), api.OK)
	wantOpen(t, f.Crash(0, nil), six()[:5])
	f.Remove(name)
	wantErr(t, "Sync", s.Sync(), api.ErrNotFound)
}

func TestP15_1Nil(t *testing.T) {
	var none *raw.Seg
	wantErr(t, "Sync", none.Sync(), api.ErrClosed)
	for _, at := range []int{math.MinInt, -1, 0, 1, math.MaxInt} {
		wantNoRecord(t, none, at, api.ErrClosed)
	}
	for _, r := range append(six(), api.Record{}) {
		wantNoAppend(t, none, r, api.ErrClosed)
	}
	if none.Len() != 0 || none.Size() != 0 {
		t.Error("a nil segment has records")
	}
}

func TestP15_1ZeroPanicsNowhere(t *testing.T) {
	var s raw.Seg
	wantSeg(t, &s, nil)
	s.Sync()
	wantNoAppend(t, &s, api.Record{}, api.ErrEmptyKey)
	wantNoAppend(t, &s, seventh(), api.ErrNotFound)
	wantSeg(t, &s, nil)
}

// What was handed out stays as it is, whatever becomes of the file: P0.3.
func TestP15_1SharesNothing(t *testing.T) {
	f, s := made(t, six())
	var got []api.Record
	for k := range six() {
		r, _ := s.Get(k)
		got = append(got, r)
	}
	x := wantOpen(t, f, six())
	for sector := range 9 {
		f.Rot(name, sector, 5)
	}
	if !slices.Equal(got, six()) {
		t.Error("records share memory with the file")
	}
	for sector := range 9 {
		f.Rot(name, sector, 5)
	}
	c := f.Crash(1, []int{9999})
	y := wantOpen(t, c, six())
	wantAppend(t, y, seventh(), 6)
	wantSeg(t, s, six())
	wantSeg(t, x, six())
	wantSeg(t, y, append(six(), seventh()))
	wantFile(t, f, name, log(six()))
}
