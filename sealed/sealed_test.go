package sealed_test

import (
	"bytes"
	"math"
	"slices"
	"strconv"
	"strings"
	"testing"

	"folio/api"
	"folio/record"
	"folio/sealed"
)

// Held apart from the constants of api, as the chapters tell them.
const (
	mostKey   = 100
	mostValue = 4000
	mostSeq   = 1 << 50
)

func put(seq int64, key, value string) api.Record {
	return api.Record{Kind: 1, Seq: seq, Key: key, Value: value}
}

func del(seq int64, key string) api.Record {
	return api.Record{Seq: seq, Key: key}
}

// noise gives a text of n bytes that can't be compressed, another one for each start.
func noise(start, n int) string {
	b := make([]byte, n)
	x := uint32(start)*2654435761 + 1
	for k := range b {
		x = x*1664525 + 1013904223
		b[k] = byte(x >> 24)
	}
	return string(b)
}

// forty gives 40 records of seven keys, with deletions and values of none to some hundred bytes.
func forty() []api.Record {
	var l []api.Record
	for k := range 40 {
		key := "key" + strconv.Itoa(k%7)
		if k%5 == 4 {
			l = append(l, del(int64(3*k+1), key))
		} else {
			l = append(l, put(int64(3*k+1), key, strings.Repeat("value "+strconv.Itoa(k), k*k%60)))
		}
	}
	return l
}

// edges gives records with the least and the greatest of everything.
func edges() []api.Record {
	long := noise(1, mostKey)
	return []api.Record{
		put(mostSeq, long, noise(2, mostValue)), put(1, "a", ""), del(mostSeq, "\x00"), put(127, "\xff", "\x00"),
		put(128, "a\x00", strings.Repeat("v", mostValue)), del(1, long),
	}
}

// invalid gives records that Check refuses, by the error.
func invalid() map[api.Errno]api.Record {
	return map[api.Errno]api.Record{
		api.ErrEmptyKey: put(0, "", strings.Repeat("v", mostValue+1)),
		api.ErrTooLarge: put(0, strings.Repeat("k", mostKey+1), ""),
		api.ErrForm:     del(mostSeq+1, "k"),
	}
}

// most is the number of bytes that a segment of l may have.
func most(l []api.Record) int {
	size := 200
	for _, r := range l {
		b, _ := record.Encode(r)
		size += len(b) + 40
	}
	return size
}

func built(t *testing.T, l []api.Record) []byte {
	t.Helper()
	b, err := sealed.Build(l)
	if err != api.OK || len(b) > most(l) {
		t.Fatalf("Build of %d records: %d bytes of %d, error %d", len(l), len(b), most(l), err)
	}
	return b
}

func opened(t *testing.T, b []byte) *sealed.Seg {
	t.Helper()
	s, err := sealed.Open(b)
	if s == nil || err != api.OK {
		t.Fatalf("Open of %d bytes: error %d", len(b), err)
	}
	return s
}

func wantNoOpen(t *testing.T, what string, b []byte) {
	t.Helper()
	if s, err := sealed.Open(b); s != nil || err != api.ErrCorrupt {
		t.Fatalf("%s: Open: error %d and a segment (%v), not ErrCorrupt and none", what, err, s != nil)
	}
}

func wantGet(t *testing.T, s *sealed.Seg, at int, want api.Record) {
	t.Helper()
	if r, err := s.Get(at); r != want || err != api.OK {
		t.Fatalf("Get %d: %.60v, %d; not %.60v", at, r, err, want)
	}
}

func wantNoGet(t *testing.T, s *sealed.Seg, at int, want api.Errno) {
	t.Helper()
	if r, err := s.Get(at); r != (api.Record{}) || err != want {
		t.Fatalf("Get %d: %.60v, %d; not none and %d", at, r, err, want)
	}
}

func wantAll(t *testing.T, s *sealed.Seg, l []api.Record) {
	t.Helper()
	if all, err := s.All(); !slices.Equal(all, l) || err != api.OK {
		t.Fatalf("All: %d records, error %d; not %d, or other ones", len(all), err, len(l))
	}
}

// wantDirectory looks at all that s answers from its directory alone.
func wantDirectory(t *testing.T, s *sealed.Seg, l []api.Record) {
	t.Helper()
	if s.Len() != len(l) {
		t.Fatalf("Len %d, not %d", s.Len(), len(l))
	}
	for _, at := range []int{math.MinInt, -1, len(l), len(l) + 1, math.MaxInt} {
		wantNoGet(t, s, at, api.ErrRange)
	}
	keys := []string{"", "k", "key", "key9", "none", strings.Repeat("k", mostKey+1)}
	for _, r := range l {
		keys = append(keys, r.Key, r.Key+"\x00", r.Key[1:])
	}
	for _, key := range keys {
		want := len(l) - 1
		for want >= 0 && l[want].Key != key {
			want--
		}
		if at, ok := s.Find(key); ok != (want >= 0) || at != max(want, 0) {
			t.Fatalf("Find %q: %d, %v; not %d", key, at, ok, want)
		}
	}
}

// wantSeg looks at all that s answers.
func wantSeg(t *testing.T, s *sealed.Seg, l []api.Record) {
	t.Helper()
	wantDirectory(t, s, l)
	wantAll(t, s, l)
	for at, r := range l {
		wantGet(t, s, at, r)
	}
}

func TestP16_1Example(t *testing.T) {
	l := forty()
	wantSeg(t, opened(t, built(t, l)), l)
}

func TestP16_1FewRecords(t *testing.T) {
	wantSeg(t, opened(t, built(t, nil)), nil)
	wantSeg(t, opened(t, built(t, []api.Record{})), nil)
	for _, r := range append(edges(), forty()...) {
		l := []api.Record{r}
		wantSeg(t, opened(t, built(t, l)), l)
	}
}

func TestP16_1Edges(t *testing.T) {
	l := edges()
	for range 7 {
		l = append(l[1:], l[0])
		wantSeg(t, opened(t, built(t, l)), l)
	}
}

// A segment needs no order of its records: neither keys nor numbers ascend, and one record comes several times.
func TestP16_1AnyOrder(t *testing.T) {
	l := []api.Record{put(9, "b", "1"), put(3, "a", "2"), del(5, "b"), put(9, "b", "1"), del(5, "b"), put(1, "a", "")}
	s := opened(t, built(t, l))
	wantSeg(t, s, l)
	for key, want := range map[string]int{"b": 4, "a": 5} {
		if at, ok := s.Find(key); at != want || !ok {
			t.Errorf("Find %q: %d, %v; not %d", key, at, ok, want)
		}
	}
}

// Values that begin and end at the border of a block, or a byte beside it.
func TestP16_1Borders(t *testing.T) {
	for _, size := range []int{1, 2, 333, 500, 999, 1000, 1001, 1999, 2000, 2001, 3999, 4000} {
		for _, ahead := range []int{0, 1, 2, 998, 999, 1000} {
			l := []api.Record{put(1, "a", noise(1, ahead)), put(2, "b", noise(2, size)), put(3, "c", ""), put(4, "d", noise(3, 5))}
			wantSeg(t, opened(t, built(t, l)), l)
		}
	}
}

func TestP16_1ManyRecords(t *testing.T) {
	var l []api.Record
	for k := range 20_000 {
		l = append(l, put(int64(k+1), "key"+strconv.Itoa(k%15_000), "value"+strconv.Itoa(k)))
	}
	s := opened(t, built(t, l))
	wantAll(t, s, l)
	for at := 0; at < len(l); at += 997 {
		wantGet(t, s, at, l[at])
	}
	for k := range 15_000 {
		want := k
		if k < 5000 {
			want += 15_000
		}
		if at, ok := s.Find("key" + strconv.Itoa(k)); at != want || !ok {
			t.Fatalf("Find %d: %d, %v; not %d", k, at, ok, want)
		}
	}
}

// Records of which nothing can be compressed, of each size, few of them and many.
func TestP16_1Bound(t *testing.T) {
	for _, count := range []int{1, 2, 3, 10, 100} {
		for _, key := range []int{1, 2, mostKey} {
			for _, value := range []int{0, 1, 10, 500, 999, 1000, 1001, 2001, 3001, mostValue} {
				var l []api.Record
				for k := range count {
					l = append(l, put(mostSeq-int64(noise(k, 3)[2])<<40, noise(k, key), noise(-k, value)))
				}
				built(t, l)
			}
			l := []api.Record{}
			for k := range count {
				l = append(l, del(1, noise(k, key)))
			}
			built(t, l)
		}
	}
}

// Keys are compressed as values are.
func TestP16_1Compressed(t *testing.T) {
	var keys, values []api.Record
	size := 0
	for k := range 100 {
		keys = append(keys, put(int64(k+1), "the same long beginning of many keys, with a number: "+strconv.Itoa(k), ""))
		values = append(values, put(int64(k+1), "k"+strconv.Itoa(k), "the same long beginning of values, with a number: "+strconv.Itoa(k)))
	}
	for _, l := range [][]api.Record{keys, values} {
		size = most(l) - 200 - 40*len(l)
		if b := built(t, l); len(b) > size/3 {
			t.Errorf("%d bytes of encodings make a segment of %d", size, len(b))
		}
	}
}

func TestP16_1BuildInvalid(t *testing.T) {
	wantNone := func(l []api.Record, want api.Errno) {
		t.Helper()
		if b, err := sealed.Build(l); b != nil || err != want {
			t.Errorf("Build: %d bytes, error %d; not none and %d", len(b), err, want)
		}
	}
	good := put(1, "k", "v")
	wantNone([]api.Record{good, {Kind: 7, Seq: 1, Key: "k"}, put(1, "", "")}, api.ErrForm)
	for err, r := range invalid() {
		wantNone([]api.Record{r}, err)
		wantNone([]api.Record{good, good, r}, err)
		wantNone(append(forty(), r, good), err)
		for _, second := range invalid() {
			wantNone([]api.Record{good, r, second}, err)
		}
	}
	for _, r := range []api.Record{
		{Kind: 2, Seq: 1, Key: "k"}, {Kind: -1, Seq: 1, Key: "k"}, {Kind: 1 << 32, Seq: 1, Key: "k"}, {Kind: 0, Seq: 1, Key: "k", Value: "v"},
		put(0, "k", ""), put(-1, "k", ""), put(mostSeq+1, "k", ""), put(math.MaxInt64, "k", ""), put(math.MinInt64, "k", ""),
	} {
		wantNone([]api.Record{r}, api.ErrForm)
	}
	wantNone([]api.Record{put(1, "k", strings.Repeat("v", mostValue+1))}, api.ErrTooLarge)
}

func TestP16_1Nil(t *testing.T) {
	var none *sealed.Seg
	for _, at := range []int{math.MinInt, -1, 0, 1, math.MaxInt} {
		wantNoGet(t, none, at, api.ErrClosed)
	}
	if all, err := none.All(); all != nil || err != api.ErrClosed {
		t.Errorf("All: %d records, error %d", len(all), err)
	}
	for _, key := range []string{"", "k"} {
		if at, ok := none.Find(key); at != 0 || ok {
			t.Errorf("Find %q: %d, %v", key, at, ok)
		}
	}
	if none.Len() != 0 {
		t.Errorf("Len %d", none.Len())
	}
	wantSeg(t, new(sealed.Seg), nil)
}

// Nothing that is handed in or out is shared with a segment.
func TestP16_1NothingShared(t *testing.T) {
	roomy := append(make([]api.Record, 0, 100), forty()...)
	b := built(t, roomy[:40])
	if !slices.Equal(roomy, forty()) || !slices.Equal(roomy[:100][40:], make([]api.Record, 60)) {
		t.Error("Build changed its records")
	}
	if again := built(t, roomy); !bytes.Equal(b, again) {
		t.Error("Build gives other bytes for the same records")
	}
	long := append(bytes.Clone(b), bytes.Repeat([]byte{7}, 100)...)
	s := opened(t, long[:len(b)])
	if !bytes.Equal(long, append(bytes.Clone(b), bytes.Repeat([]byte{7}, 100)...)) {
		t.Error("Open changed its bytes")
	}
	clear(long)
	clear(roomy)
	wantSeg(t, s, forty())
	all, _ := s.All()
	clear(all[:cap(all)])
	wantSeg(t, s, forty())
	other := opened(t, b)
	clear(b[:cap(b)])
	wantSeg(t, other, forty())
	wantSeg(t, opened(t, built(t, forty())), forty())
}

// What one call answers hangs on no call ahead of it.
func TestP16_1AnyCalls(t *testing.T) {
	l := edges()
	b := built(t, l)
	for _, at := range []int{5, 0, 4, 4, 1, 3, 2, 0} {
		s := opened(t, b)
		wantGet(t, s, at, l[at])
		wantNoGet(t, s, -1, api.ErrRange)
		wantGet(t, s, len(l)-1-at, l[len(l)-1-at])
		wantAll(t, s, l)
		wantGet(t, s, at, l[at])
	}
}
