package record_test

import (
	"bytes"
	"encoding/binary"
	"hash/crc32"
	"math"
	"math/rand"
	"slices"
	"strings"
	"testing"

	"folio/api"
	"folio/record"
)

// Held apart from the constants of api, as the chapter tells them.
const (
	mostKey   = 100
	mostValue = 4000
	mostSeq   = 1 << 50
)

func put(seq int64, key, value string) api.Record {
	return api.Record{Kind: 1, Seq: seq, Key: key, Value: value}
}

func del(seq int64, key string) api.Record {
	return api.Record{Seq: seq, Key: key}
}

func long(size int) string {
	return strings.Repeat("x", size)
}

func plainSeal(s string) []byte {
	b := binary.LittleEndian.AppendUint32(nil, uint32(len(s)))
	b = binary.LittleEndian.AppendUint32(b, crc32.ChecksumIEEE(b))
	b = binary.LittleEndian.AppendUint32(b, crc32.ChecksumIEEE([]byte(s)))
	return append(b, s...)
}

func plainText(s string) string {
	return string(binary.AppendUvarint(nil, uint64(len(s)))) + s
}

// plainBody is what the encoding of r should seal.
func plainBody(r api.Record) string {
	s := string(binary.AppendUvarint([]byte{byte(r.Kind)}, uint64(r.Seq))) + plainText(r.Key)
	if r.Kind == 1 {
		s += plainText(r.Value)
	}
	return s
}

func plainLog(l []api.Record) []byte {
	var log []byte
	for _, r := range l {
		log = append(log, plainSeal(plainBody(r))...)
	}
	return log
}

// plainCheck is what Check should answer.
func plainCheck(r api.Record) api.Errno {
	if len(r.Key) == 0 {
		return api.ErrEmptyKey
	}
	if len(r.Key) > mostKey || len(r.Value) > mostValue {
		return api.ErrTooLarge
	}
	if r.Kind != 0 && r.Kind != 1 || r.Kind == 0 && len(r.Value) > 0 || r.Seq < 1 || r.Seq > mostSeq {
		return api.ErrForm
	}
	return api.OK
}

// plainRecord reads a body loosely, and holds what it read against the only body that it may have been read from.
func plainRecord(s string) (api.Record, bool) {
	b := bytes.NewReader([]byte(s))
	kind, _ := b.ReadByte()
	seq, _ := binary.ReadUvarint(b)
	text := func() string {
		size, _ := binary.ReadUvarint(b)
		t := make([]byte, min(size, uint64(b.Len())))
		b.Read(t)
		return string(t)
	}
	r := api.Record{Kind: int(kind), Seq: int64(seq), Key: text()}
	if kind == 1 {
		r.Value = text()
	}
	return r, plainCheck(r) == api.OK && plainBody(r) == s
}

// plainScan is what Scan should answer.
func plainScan(b []byte) ([]api.Record, int, bool) {
	var found []api.Record
	at := 0
	for len(b)-at >= 12 {
		size := binary.LittleEndian.Uint32(b[at:])
		if binary.LittleEndian.Uint32(b[at+4:]) != crc32.ChecksumIEEE(b[at:at+4]) {
			return found, at, false
		}
		if uint64(size) > uint64(len(b)-at-12) {
			return found, at, true
		}
		body := b[at+12 : at+12+int(size)]
		r, ok := plainRecord(string(body))
		if !ok || binary.LittleEndian.Uint32(b[at+8:]) != crc32.ChecksumIEEE(body) {
			return found, at, false
		}
		found = append(found, r)
		at += 12 + int(size)
	}
	return found, at, true
}

func anyText(r *rand.Rand, most int) string {
	b := make([]byte, r.Intn(most+1))
	r.Read(b)
	return string(b)
}

// anyRecord gives a valid one, of any size of number, key and value.
func anyRecord(r *rand.Rand) api.Record {
	seq := 1 + r.Int63n(1<<r.Intn(51))
	key := "k" + anyText(r, r.Intn(mostKey))
	if r.Intn(3) == 0 {
		return del(seq, key)
	}
	return put(seq, key, anyText(r, r.Intn(200)))
}

func anyRecords(r *rand.Rand, count int) []api.Record {
	l := make([]api.Record, count)
	for k := range l {
		l[k] = anyRecord(r)
	}
	return l
}

func five() []api.Record {
	return []api.Record{put(1, "a", "one"), put(2, "b", ""), del(3, "a"), put(300, "\xff\x00", "\x80"), put(mostSeq, long(mostKey), long(200))}
}

func wantCheck(t *testing.T, r api.Record, want api.Errno) {
	t.Helper()
	if got := record.Check(r); got != want {
		t.Errorf("Check of kind %d, number %d, a key of %d and a value of %d bytes: %d, not %d", r.Kind, r.Seq, len(r.Key), len(r.Value), got, want)
	}
	b, err := record.Encode(r)
	if err != want {
		t.Errorf("Encode of kind %d, number %d, a key of %d and a value of %d bytes: %d, not %d", r.Kind, r.Seq, len(r.Key), len(r.Value), err, want)
	}
	if want != api.OK && b != nil {
		t.Errorf("Encode: %x beside the error %d", b, err)
	}
	if want == api.OK && !bytes.Equal(b, plainLog([]api.Record{r})) {
		t.Errorf("Encode of kind %d, number %d, key %q, value %q: %x", r.Kind, r.Seq, r.Key, r.Value, b)
	}
}

func wantScan(t *testing.T, b []byte, want []api.Record, size int, cut bool) {
	t.Helper()
	found, end, ok := record.Scan(b)
	if !slices.Equal(found, want) || end != size || ok != cut {
		t.Fatalf("Scan of %d bytes: %d records, %d, %v; not %d, %d, %v, or other ones", len(b), len(found), end, ok, len(want), size, cut)
	}
}

// wantRefused asks for the answer to a log in which a seal of body, which is no encoding, comes ahead of all, in between
// or last.
func wantRefused(t *testing.T, body string) {
	t.Helper()
	l := five()
	for k := range len(l) + 1 {
		before := plainLog(l[:k])
		b := slices.Concat(before, plainSeal(body), plainLog(l[k:]))
		wantScan(t, b, l[:k], len(before), false)
		wantScan(t, b[:len(before)+12+len(body)], l[:k], len(before), false)
	}
}

func TestP14_1CheckExamples(t *testing.T) {
	wantCheck(t, put(1, "", long(4001)), api.ErrEmptyKey)
	wantCheck(t, put(0, long(101), ""), api.ErrTooLarge)
	wantCheck(t, put(0, "k", ""), api.ErrForm)
	wantCheck(t, put(1, "k", ""), api.OK)
}

func TestP14_1CheckSizes(t *testing.T) {
	for _, x := range []struct {
		key, value int
		want       api.Errno
	}{
		{0, 0, api.ErrEmptyKey}, {0, 1, api.ErrEmptyKey}, {1, 0, api.OK}, {99, 3999, api.OK},
		{100, 0, api.OK}, {100, 4000, api.OK}, {101, 0, api.ErrTooLarge}, {1, 4001, api.ErrTooLarge},
		{100, 4001, api.ErrTooLarge}, {101, 4000, api.ErrTooLarge}, {101, 4001, api.ErrTooLarge},
		{356, 0, api.ErrTooLarge}, {1, 1 << 16, api.ErrTooLarge}, {1 << 20, 1 << 20, api.ErrTooLarge},
	} {
		wantCheck(t, put(1, long(x.key), long(x.value)), x.want)
	}
	// Bytes count, not runes.
	wantCheck(t, put(1, strings.Repeat("\u00e9", 50), ""), api.OK)
	wantCheck(t, put(1, strings.Repeat("\u00e9", 51), ""), api.ErrTooLarge)
	wantCheck(t, put(1, "\x00", "\x00"), api.OK)
}

func TestP14_1CheckKindsAndNumbers(t *testing.T) {
	for _, kind := range []int{math.MinInt, -256, -255, -2, -1, 2, 3, 255, 256, 257, 1 << 32, 1<<32 + 1, math.MaxInt} {
		wantCheck(t, api.Record{Kind: kind, Seq: 1, Key: "k"}, api.ErrForm)
		wantCheck(t, api.Record{Kind: kind, Seq: 1, Key: "k", Value: "v"}, api.ErrForm)
	}
	for _, seq := range []int64{math.MinInt64, math.MinInt64 + 1, -1, 0, 1<<50 + 1, 1 << 51, math.MaxInt64} {
		wantCheck(t, put(seq, "k", "v"), api.ErrForm)
		wantCheck(t, del(seq, "k"), api.ErrForm)
	}
	for _, seq := range []int64{1, 2, 127, 128, 300, 1 << 14, 1 << 32, 1<<50 - 1, 1 << 50} {
		wantCheck(t, put(seq, "k", "v"), api.OK)
		wantCheck(t, del(seq, "k"), api.OK)
	}
	for _, size := range []int{1, 2, 256, 4000} {
		wantCheck(t, api.Record{Seq: 1, Key: "k", Value: long(size)}, api.ErrForm)
	}
}

func TestP14_1CheckOrder(t *testing.T) {
	for kind := -1; kind <= 2; kind++ {
		for _, seq := range []int64{-1, 0, 1, 1 << 50, 1<<50 + 1} {
			for _, key := range []int{0, 1, 100, 101} {
				for _, value := range []int{0, 1, 4000, 4001} {
					r := api.Record{Kind: kind, Seq: seq, Key: long(key), Value: long(value)}
					wantCheck(t, r, plainCheck(r))
				}
			}
		}
	}
	wantCheck(t, api.Record{}, api.ErrEmptyKey)
}

func TestP14_1EncodeExamples(t *testing.T) {
	for _, x := range []struct {
		r    api.Record
		want string
	}{
		{put(300, "k", "val"), "\x01\xac\x02\x01k\x03val"},
		{del(1, "k"), "\x00\x01\x01k"},
		{put(1, "k", ""), "\x01\x01\x01k\x00"},
		{put(mostSeq, "\xff", "\x00"), "\x01\x80\x80\x80\x80\x80\x80\x80\x02\x01\xff\x01\x00"},
		{put(127, long(100), long(4000)), "\x01\x7f\x64" + long(100) + "\xa0\x1f" + long(4000)},
	} {
		if b, err := record.Encode(x.r); !bytes.Equal(b, plainSeal(x.want)) || err != api.OK {
			t.Errorf("Encode of key %q: %x, %d", x.r.Key, b, err)
		}
	}
}

func TestP14_1EncodeAndScan(t *testing.T) {
	r := rand.New(rand.NewSource(1))
	for range 2_000 {
		one := anyRecord(r)
		wantCheck(t, one, api.OK)
		b, _ := record.Encode(one)
		wantScan(t, b, []api.Record{one}, len(b), true)
	}
	for _, key := range []int{1, 2, 99, 100} {
		for _, value := range []int{0, 1, 127, 128, 3999, 4000} {
			for _, seq := range []int64{1, 127, 128, mostSeq - 1, mostSeq} {
				l := []api.Record{put(seq, long(key), long(value)), del(seq, long(key))}
				b := plainLog(l)
				wantScan(t, b, l, len(b), true)
			}
		}
	}
}

func TestP14_1ScanOfNothing(t *testing.T) {
	wantScan(t, nil, nil, 0, true)
	wantScan(t, []byte{}, nil, 0, true)
	wantScan(t, make([]byte, 11), nil, 0, true)
	wantScan(t, make([]byte, 12), nil, 0, false)
}

func TestP14_1ScanExamples(t *testing.T) {
	l := five()
	log := plainLog(l)
	wantScan(t, log, l, len(log), true)
	wantScan(t, log[:len(log)-1], l[:4], len(plainLog(l[:4])), true)
	wantScan(t, append(log, plainSeal("")...), l, len(log), false)
}

func TestP14_1ScanOfEachBeginning(t *testing.T) {
	l := five()
	log := plainLog(l)
	for n := range len(log) + 1 {
		k := 0
		for k < len(l) && len(plainLog(l[:k+1])) <= n {
			k++
		}
		wantScan(t, log[:n], l[:k], len(plainLog(l[:k])), true)
		wantScan(t, bytes.Clone(log[:n]), l[:k], len(plainLog(l[:k])), true)
	}
}

func TestP14_1ScanOfChangedBytes(t *testing.T) {
	l := five()
	log := plainLog(l)
	k := 0
	for at := range log {
		if at == len(plainLog(l[:k+1])) {
			k++
		}
		for x := 1; x < 256; x++ {
			changed := bytes.Clone(log)
			changed[at] ^= byte(x)
			wantScan(t, changed, l[:k], len(plainLog(l[:k])), false)
		}
	}
}

func TestP14_1ScanOfALongLog(t *testing.T) {
	l := anyRecords(rand.New(rand.NewSource(3)), 20_000)
	log := plainLog(l)
	wantScan(t, log, l, len(log), true)
	wantScan(t, append(log, make([]byte, 12)...), l, len(log), false)
	wantScan(t, append(log, make([]byte, 11)...), l, len(log), true)
}

// A log may hold the same record twice, and numbers in any order.
func TestP14_1ScanKeepsTheOrder(t *testing.T) {
	l := []api.Record{put(9, "b", "1"), put(9, "b", "1"), del(1, "a"), put(8, "a", "2"), del(9, "b"), del(1, "a")}
	log := plainLog(l)
	wantScan(t, log, l, len(log), true)
}

func TestP14_1ScanRefusesWhatIsNoEncoding(t *testing.T) {
	for _, body := range []string{
		"",
		"\x00", "\x01", "\x02", "\xff",
		"\x00\x01", "\x01\x01", "\x01\x01\x01", "\x00\x01\x01", // there is no key
		"\x01\x01\x02k", "\x00\x01\x02k", // the key is too short
		"\x00\x01\x00", "\x01\x01\x00\x00", "\x01\x01\x00\x01v", // the key is empty
		"\x01\x01\x01k", "\x01\x01\x01k\x01", "\x01\x01\x01k\x03va", "\x01\x01\x01k\x80", // the value is cut off
		"\x00\x01\x01k\x00", "\x00\x01\x01k\x01v", "\x00\x01\x01kv", // there is more than a KDel has
		"\x01\x01\x01k\x00\x00", "\x01\x01\x01k\x01v\x00", "\x01\x01\x01k\x01vv", // and than a KPut has
		"\x00\x00\x01k", "\x01\x00\x01k\x00", // the number is 0
		"\x01\x81\x00\x01k\x00", "\x00\x81\x00\x01k", // it is longer than needed
		"\x01\x01\x81\x00k\x00", "\x00\x01\x81\x00k", "\x01\x01\x01k\x80\x00", "\x01\x01\x01k\x81\x00v", // a length is
		"\x00\x81\x80\x80\x80\x80\x80\x80\x02\x01k",         // 2^50 + 1
		"\x00\xff\xff\xff\xff\xff\xff\xff\xff\x7f\x01k",     // 2^63 - 1
		"\x00\x80\x80\x80\x80\x80\x80\x80\x80\x80\x01\x01k", // 2^63
		"\x00\x81\x80\x80\x80\x80\x80\x80\x80\x80\x01\x01k", // 2^63 + 1
		"\x00\xff\xff\xff\xff\xff\xff\xff\xff\xff\x01\x01k", // 2^64 - 1
		"\x00\x81\x80\x80\x80\x80\x80\x80\x80\x80\x02\x01k", // 2^64 + 1
		"\x01\x01\xff\xff\xff\xff\xff\xff\xff\xff\xff\x01k", // a key of 2^64 - 1 bytes
		"\x01\x01\x01k\xff\xff\xff\xff\xff\xff\xff\xff\x7fv",
		"\x01\x01\x80\x80\x80\x80\x80\x80\x80\x80\x80\x01k\x00",
		"\x00\x01\x65" + long(101), "\x01\x01\x65" + long(101) + "\x00", "\x01\x01\x01k\xa1\x1f" + long(4001),
		"\x00\x01\x80\x80\x40" + long(1<<20), "\x01\x01\x01k\x80\x80\x40" + long(1<<20),
		string(plainSeal("\x00\x01\x01k")),
	} {
		wantRefused(t, body)
	}
	for kind := 2; kind < 256; kind++ {
		wantRefused(t, string([]byte{byte(kind)})+"\x01\x01k")
		wantRefused(t, string([]byte{byte(kind)})+"\x01\x01k\x00")
		wantRefused(t, string([]byte{byte(kind)})+"\x01\x01k\x01v")
	}
}

// What comes behind a refused seal isn't looked at, whatever it is.
func TestP14_1ScanEndsAtTheFirstFault(t *testing.T) {
	l := five()
	log := plainLog(l)
	for _, rest := range [][]byte{nil, {1}, make([]byte, 11), make([]byte, 12), log, log[:len(log)-1], plainSeal("")} {
		wantScan(t, slices.Concat(log, plainSeal(""), rest), l, len(log), false)
		wantScan(t, slices.Concat(log, plainSeal("\x02\x01\x01k\x00"), rest), l, len(log), false)
	}
	broken := plainLog(l[:1])
	broken[len(broken)-1] ^= 1
	wantScan(t, slices.Concat(log, broken, log), l, len(log), false)
	// A header that tells a length behind the end, ahead of a header that is none.
	cut := plainSeal(long(50))[:40]
	wantScan(t, slices.Concat(log, cut), l, len(log), true)
	wantScan(t, slices.Concat(log, cut[:20], make([]byte, 20)), l, len(log), true)
	wantScan(t, slices.Concat(plainSeal(""), cut), nil, 0, false)
}

func TestP14_1ScanOfAnyBytes(t *testing.T) {
	r := rand.New(rand.NewSource(4))
	for range 20_000 {
		var b []byte
		for range r.Intn(4) {
			b = append(b, plainLog(anyRecords(r, r.Intn(3)))...)
			body := []byte(plainBody(anyRecord(r)))
			for range r.Intn(3) {
				body[r.Intn(min(6, len(body)))] = byte(r.Intn(256))
			}
			b = append(b, plainSeal(string(body[:len(body)-r.Intn(2)*r.Intn(3)]))...)
			b = append(b, anyText(r, r.Intn(2)*r.Intn(30))...)
		}
		b = b[:len(b)-r.Intn(2)*r.Intn(len(b)+1)]
		want, size, cut := plainScan(b)
		wantScan(t, b, want, size, cut)
	}
}

// Bodies of a few bytes, from such as tell kinds, lengths and numbers, and the same behind a key or the beginning of a number.
func TestP14_1ScanOfEachShortBody(t *testing.T) {
	letters := "\x00\x01\x02\x7f\x80\x81\xff"
	var tried func(body string, left int)
	tried = func(body string, left int) {
		b := plainSeal(body)
		want, size, cut := plainScan(b)
		wantScan(t, b, want, size, cut)
		if left == 0 {
			return
		}
		for k := range len(letters) {
			tried(body+letters[k:k+1], left-1)
		}
	}
	tried("", 5)
	tried("\x01\x01\x01k", 3)
	tried("\x00\x01\x01k", 3)
	tried("\x00\x80\x80\x80\x80\x80\x80\x80", 4)
}

// Nothing is changed, kept or shared: P0.3.
func TestP14_1SharesNothing(t *testing.T) {
	spoil := func(b []byte) {
		b = b[:cap(b)]
		for k := range b {
			b[k] ^= 0xff
		}
	}
	l := five()
	log := plainLog(l)
	b := bytes.Clone(log)
	first, _, _ := record.Scan(b)
	again, _, _ := record.Scan(b)
	spoil(b)
	if !slices.Equal(first, l) {
		t.Error("the records share memory with the log")
	}
	clear(first[:cap(first)])
	if !slices.Equal(again, l) {
		t.Error("the records of two calls share memory")
	}
	one, _ := record.Encode(l[0])
	two, _ := record.Encode(l[0])
	spoil(one)
	three, _ := record.Encode(l[0])
	if want := plainLog(l[:1]); !bytes.Equal(two, want) || !bytes.Equal(three, want) {
		t.Error("the encodings of one record share memory")
	}
	whole := append(bytes.Clone(log), "what lies behind"...)
	for n := range len(log) + 1 {
		record.Scan(whole[:n])
	}
	if string(whole) != string(log)+"what lies behind" {
		t.Error("Scan changed the log, or what lies behind it")
	}
}
