package disk_test

import (
	"bytes"
	"math"
	"strconv"
	"testing"

	"folio/api"
	"folio/disk"
)

func TestP13_2FailExample(t *testing.T) {
	f := with(t, 99, "a", "")
	f.Fail(2)
	wantErr(t, "the first", f.Append("a", []byte("1")), api.OK)
	wantErr(t, "the second", f.Append("q", nil), api.ErrNotFound)
	wantErr(t, "the third", f.Append("a", []byte("2")), api.ErrIO)
	wantErr(t, "the next one", f.Append("a", []byte("3")), api.OK)
	wantErr(t, "one more", f.Append("q", nil), api.ErrNotFound)
	wantFiles(t, "all", f, "a=13 ")
	wantInt(t, "Calls", f.Calls(), 7)
}

func TestP13_2FailOfEachCall(t *testing.T) {
	for what, call := range modifying() {
		f := spare(t)
		was, calls := lasts(f), f.Calls()
		f.Fail(0)
		wantErr(t, what, call(f), api.ErrIO)
		wantFiles(t, what, f, "a=12345 e=xyz ")
		wantInt(t, what+": Used", f.Used(), 8)
		wantInt(t, what+": Calls", f.Calls(), calls+1)
		if now := lasts(f); now != was {
			t.Errorf("%s: a crash leaves %q, not %q", what, now, was)
		}
		wantErr(t, what+", the next one", call(f), api.OK)
		if now := lasts(f); now == was {
			t.Errorf("%s, the next one: a crash leaves what it left before", what)
		}
	}
}

func TestP13_2FailIsAheadOfOtherErrors(t *testing.T) {
	for what, call := range wrong() {
		f := spare(t)
		f.Fail(0)
		got, _ := call(f)
		wantErr(t, what, got, api.ErrIO)
		got, own := call(f)
		wantErr(t, what+", the next one", got, own)
	}
	f := full(t)
	f.Fail(0)
	wantErr(t, "one more", f.Create("g"), api.ErrIO)
	wantErr(t, "one more", f.Create("g"), api.ErrFull)
}

func TestP13_2FailCountsEachModifyingCall(t *testing.T) {
	for what, call := range modifying() {
		f := spare(t)
		f.Fail(1)
		wantErr(t, what, call(f), api.OK)
		wantErr(t, what+", then SyncDir", f.SyncDir(), api.ErrIO)
		wantErr(t, what+", then SyncDir again", f.SyncDir(), api.OK)
	}
	for what, call := range wrong() {
		f := spare(t)
		f.Fail(1)
		got, own := call(f)
		wantErr(t, what, got, own)
		wantErr(t, what+", then SyncDir", f.SyncDir(), api.ErrIO)
	}
}

func TestP13_2FailCountsNoOtherCall(t *testing.T) {
	f := spare(t)
	calls := f.Calls()
	f.Fail(1)
	f.Read("a")
	f.Read("q")
	f.Names()
	f.Used()
	f.Calls()
	f.Room(30)
	f.Rot("a", 0, 1)
	f.Rot("q", 0, 1)
	f.Rot("a", 9, 1)
	f.Crash(1, nil).SyncDir()
	wantInt(t, "Calls", f.Calls(), calls)
	wantErr(t, "the first", f.SyncDir(), api.OK)
	wantErr(t, "the second", f.SyncDir(), api.ErrIO)
	wantInt(t, "Calls", f.Calls(), calls+2)
}

func TestP13_2FailAtEachPlace(t *testing.T) {
	for n := range 20 {
		f := disk.New(0)
		f.Fail(n)
		for k := range 40 {
			want := api.OK
			if k == n {
				want = api.ErrIO
			}
			wantErr(t, "Fail("+strconv.Itoa(n)+"), call "+strconv.Itoa(k), f.SyncDir(), want)
		}
		wantInt(t, "Calls", f.Calls(), 40)
	}
}

func TestP13_2FailAgain(t *testing.T) {
	f := disk.New(0)
	f.Fail(0)
	f.Fail(1)
	wantErr(t, "of the later Fail: the first", f.SyncDir(), api.OK)
	f.Fail(2)
	for k, want := range []api.Errno{api.OK, api.OK, api.ErrIO, api.OK, api.OK} {
		wantErr(t, "of the last Fail: "+strconv.Itoa(k), f.SyncDir(), want)
	}
	f.Fail(0)
	wantErr(t, "the next one", f.SyncDir(), api.ErrIO)
	f.Fail(0)
	wantErr(t, "and the next one", f.SyncDir(), api.ErrIO)
}

func TestP13_2FailNever(t *testing.T) {
	for _, n := range []int{-1, -7, math.MinInt, math.MaxInt, 1 << 50} {
		f := disk.New(0)
		f.Fail(2)
		f.SyncDir()
		f.Fail(n)
		for range 50 {
			wantErr(t, "Fail("+strconv.Itoa(n)+")", f.SyncDir(), api.OK)
		}
	}
}

func TestP13_2Calls(t *testing.T) {
	f := disk.New(3)
	calls := 0
	for what, call := range modifying() {
		call(f)
		calls++
		wantInt(t, what, f.Calls(), calls)
	}
	for what, call := range wrong() {
		call(f)
		calls++
		wantInt(t, what, f.Calls(), calls)
	}
	f.Fail(0)
	f.SyncDir()
	wantInt(t, "the one that fails", f.Calls(), calls+1)
}

func TestP13_2Room(t *testing.T) {
	f := with(t, 20, "a", "123456789")
	f.Room(5)
	wantErr(t, "no byte", f.Append("a", nil), api.ErrFull)
	wantFiles(t, "Room", f, "a=123456789 ")
	wantInt(t, "Used", f.Used(), 9)
	wantErr(t, "Create", f.Create("b"), api.OK)
	wantErr(t, "no byte of a file without bytes", f.Append("b", nil), api.ErrFull)
	f.Room(9)
	wantErr(t, "no byte", f.Append("a", nil), api.OK)
	wantErr(t, "a byte", f.Append("a", []byte("0")), api.ErrFull)
	f.Room(10)
	wantErr(t, "a byte", f.Append("a", []byte("0")), api.OK)
	f.Room(5)
	f.Remove("a")
	wantErr(t, "what there is room for", f.Append("b", []byte("12345")), api.OK)
	wantFiles(t, "all", f, "b=12345 ")
}

func TestP13_2RotExample(t *testing.T) {
	f := with(t, 500, "a", string(make([]byte, 130)))
	wantErr(t, "Rot 2", f.Rot("a", 2, 3), api.OK)
	want := make([]byte, 130)
	want[128], want[129] = 3, 4
	wantRead(t, "Rot 2", f, "a", want)
	wantErr(t, "Rot 3", f.Rot("a", 3, 3), api.ErrRange)
	wantErr(t, "Rot -1", f.Rot("a", -1, 3), api.ErrRange)
	wantErr(t, "Rot of b", f.Rot("b", 0, 3), api.ErrNotFound)
	wantRead(t, "the others", f, "a", want)
	wantErr(t, "Rot 2 again", f.Rot("a", 2, 3), api.OK)
	wantRead(t, "Rot 2 again", f, "a", make([]byte, 130))
	wantInt(t, "Calls", f.Calls(), 2)
}

// rotten gives b with a sector of it as Rot should leave it.
func rotten(b []byte, sector int, x byte) []byte {
	b = bytes.Clone(b)
	for at := range b {
		if at/64 == sector {
			b[at] ^= byte((int(x) + at%64) % 256)
		}
	}
	return b
}

func TestP13_2RotOfEachSector(t *testing.T) {
	for _, size := range []int{0, 1, 2, 63, 64, 65, 127, 128, 129, 200, 640} {
		text := make([]byte, size)
		for k := range text {
			text[k] = byte(k * 7)
		}
		sectors := (size + 63) / 64
		for sector := -2; sector < sectors+3; sector++ {
			for _, x := range []byte{0, 1, 192, 193, 250, 255} {
				f := with(t, 999, "a", string(text))
				want, wantText := api.OK, rotten(text, sector, x)
				if sector < 0 || sector >= sectors {
					want, wantText = api.ErrRange, text
				}
				what := strconv.Itoa(size) + " bytes, Rot " + strconv.Itoa(sector)
				wantErr(t, what, f.Rot("a", sector, x), want)
				wantRead(t, what, f, "a", wantText)
				wantErr(t, what, f.Rot("a", sector, x), want)
				wantRead(t, what+" twice", f, "a", text)
			}
		}
	}
}

func TestP13_2RotOutOfRange(t *testing.T) {
	f := with(t, 999, "a", "12")
	for _, sector := range []int{math.MinInt, math.MinInt / 64, -1 << 58, -1, 1, 1 << 58, 1 << 57, math.MaxInt/64 + 1, math.MaxInt} {
		wantErr(t, "Rot "+strconv.Itoa(sector), f.Rot("a", sector, 9), api.ErrRange)
		wantErr(t, "Rot of no file", f.Rot("", sector, 9), api.ErrNotFound)
	}
	wantFiles(t, "all", f, "a=12 ")
}

func TestP13_2RotLastsBeyondACrash(t *testing.T) {
	text := bytes.Repeat([]byte("synced. "), 10)
	f := with(t, 999, "a", string(text))
	f.Sync("a")
	f.SyncDir()
	f.Append("a", []byte("tail"))
	f.Rename("a", "b")
	f.Create("a")
	wantErr(t, "Rot", f.Rot("b", 1, 9), api.OK)
	want := rotten(append(bytes.Clone(text), "tail"...), 1, 9)
	wantRead(t, "synced bytes, under the old name", f.Crash(0, nil), "a", want[:len(text)])
	wantRead(t, "two bytes more", f.Crash(0, []int{2}), "a", want[:len(text)+2])
	wantRead(t, "under the new name", f.Crash(1, []int{9}), "b", want)
	wantErr(t, "Rot of the new file", f.Rot("a", 0, 9), api.ErrRange)
	f.Append("a", []byte("xy"))
	wantErr(t, "Rot of the new file", f.Rot("a", 0, 9), api.OK)
	wantRead(t, "the old file isn't the new one", f.Crash(0, []int{9}), "a", want)
	f.Append("b", []byte("more"))
	wantRead(t, "bytes that come later", f, "b", append(want, "more"...))
}

func TestP13_2RotFails(t *testing.T) {
	f := with(t, 999, "a", "12")
	f.Fail(0)
	wantErr(t, "Rot isn't a modifying call", f.Rot("a", 0, 9), api.OK)
	wantErr(t, "the next modifying call", f.Remove("a"), api.ErrIO)
}
