package crc_test

import (
	"bytes"
	"encoding/binary"
	"hash/crc32"
	"math"
	"math/rand"
	"strings"
	"testing"

	"folio/crc"
)

// plainHeader is the header of a seal that tells size as the length of its byte string.
func plainHeader(size, bodySum uint32) []byte {
	b := binary.LittleEndian.AppendUint32(nil, size)
	b = binary.LittleEndian.AppendUint32(b, crc32.ChecksumIEEE(b))
	return binary.LittleEndian.AppendUint32(b, bodySum)
}

// plainSeal is what Seal should answer.
func plainSeal(s string) []byte {
	return append(plainHeader(uint32(len(s)), crc32.ChecksumIEEE([]byte(s))), s...)
}

func plainLog(texts ...string) []byte {
	var log []byte
	for _, s := range texts {
		log = append(log, plainSeal(s)...)
	}
	return log
}

// plainScan is what Scan should answer: it seals anew what lies there, and compares.
func plainScan(b []byte) ([]string, int, bool) {
	var found []string
	at := 0
	for len(b)-at >= 12 {
		size := binary.LittleEndian.Uint32(b[at:])
		if !bytes.Equal(b[at:at+8], plainHeader(size, 0)[:8]) {
			return found, at, false
		}
		if uint64(size) > uint64(len(b)-at-12) {
			return found, at, true
		}
		s := string(b[at+12 : at+12+int(size)])
		if !bytes.HasPrefix(b[at:], plainSeal(s)) {
			return found, at, false
		}
		found = append(found, s)
		at += 12 + int(size)
	}
	return found, at, true
}

func anyText(r *rand.Rand, most int) string {
	b := make([]byte, r.Intn(most+1))
	r.Read(b)
	return string(b)
}

func wantOpen(t *testing.T, b []byte, want string) {
	t.Helper()
	if got, ok := crc.Open(b); string(got) != want || !ok {
		t.Errorf("Open(%x): %q, %v; not %q", b, got, ok, want)
	}
}

func wantNoSeal(t *testing.T, b []byte) {
	t.Helper()
	if got, ok := crc.Open(b); got != nil || ok {
		t.Errorf("Open(%x): %q, %v; not nil, false", b, got, ok)
	}
}

func wantScan(t *testing.T, b []byte, texts []string, size int, cut bool) {
	t.Helper()
	found, end, ok := crc.Scan(b)
	same := len(found) == len(texts)
	for k := 0; same && k < len(texts); k++ {
		same = string(found[k]) == texts[k]
	}
	if !same || end != size || ok != cut {
		t.Errorf("Scan(%x): %q, %d, %v; not %q, %d, %v", b, found, end, ok, texts, size, cut)
	}
}

func TestP3_1SumExamples(t *testing.T) {
	for _, x := range []struct {
		s    string
		want uint32
	}{
		{"", 0},
		{"123456789", 0xcbf43926},
		{"a", 0xe8b7be43},
		{"abc", 0x352441c2},
		{"\x00", 0xd202ef8d},
		{"\x00\x00\x00\x00", 0x2144df1c},
		{"\xff\xff\xff\xff", 0xffffffff},
	} {
		if got := crc.Sum([]byte(x.s)); got != x.want {
			t.Errorf("Sum(%q): %#x, not %#x", x.s, got, x.want)
		}
	}
	if crc.Sum(nil) != 0 {
		t.Errorf("Sum(nil): %#x", crc.Sum(nil))
	}
}

func TestP3_1SumOfEachByteAndOfAnyBytes(t *testing.T) {
	for x := range 256 {
		for y := range 256 {
			b := []byte{byte(x), byte(y)}
			if crc.Sum(b) != crc32.ChecksumIEEE(b) {
				t.Fatalf("Sum(%x): %#x", b, crc.Sum(b))
			}
		}
	}
	r := rand.New(rand.NewSource(1))
	for range 5_000 {
		b := []byte(anyText(r, 400))
		if crc.Sum(b) != crc32.ChecksumIEEE(b) {
			t.Fatalf("Sum(%x): %#x", b, crc.Sum(b))
		}
	}
}

func TestP3_1SumOfALongText(t *testing.T) {
	for _, x := range []string{"\x00", "\xff", "folio "} {
		b := bytes.Repeat([]byte(x), 1<<20)
		if crc.Sum(b) != crc32.ChecksumIEEE(b) {
			t.Errorf("%q: %#x", x, crc.Sum(b))
		}
	}
}

func TestP3_1SealExamples(t *testing.T) {
	for _, x := range []struct{ s, want string }{
		{"", "\x00\x00\x00\x00\x1c\xdf\x44\x21\x00\x00\x00\x00"},
		{"123456789", "\x09\x00\x00\x00\x96\x90\x4c\x5c\x26\x39\xf4\xcb123456789"},
	} {
		if got := crc.Seal([]byte(x.s)); string(got) != x.want {
			t.Errorf("Seal(%q): %x, not %x", x.s, got, x.want)
		}
	}
	if got := crc.Seal(nil); !bytes.Equal(got, plainSeal("")) {
		t.Errorf("Seal(nil): %x", got)
	}
}

func TestP3_1SealAndOpen(t *testing.T) {
	r := rand.New(rand.NewSource(3))
	texts := []string{"", "ab", "\x00", "\xff\xfe", string(plainSeal("inner"))}
	for _, size := range []int{11, 12, 13, 255, 256, 257, 65535, 65536, 1 << 20} {
		texts = append(texts, strings.Repeat("q", size))
	}
	for range 500 {
		texts = append(texts, anyText(r, 300))
	}
	for _, s := range texts {
		b := crc.Seal([]byte(s))
		if !bytes.Equal(b, plainSeal(s)) {
			t.Fatalf("Seal of %d bytes: %d bytes, not %d of them", len(s), len(b), len(plainSeal(s)))
		}
		wantOpen(t, b, s)
	}
}

func TestP3_1OpenOfAChangedSeal(t *testing.T) {
	for _, s := range []string{"", "a", "ab", "\x00\x00\x00", strings.Repeat("z", 70)} {
		b := plainSeal(s)
		for k := range b {
			for x := 1; x < 256; x++ {
				changed := bytes.Clone(b)
				changed[k] ^= byte(x)
				wantNoSeal(t, changed)
			}
		}
	}
}

func TestP3_1OpenOfTooFewOrTooManyBytes(t *testing.T) {
	wantNoSeal(t, nil)
	wantNoSeal(t, []byte{})
	for _, s := range []string{"", "a", "ab", strings.Repeat("z", 70)} {
		b := plainSeal(s)
		for k := range b {
			wantNoSeal(t, bytes.Clone(b[:k]))
			wantNoSeal(t, b[:k]) // the rest lies in the spare capacity
		}
		for x := range 256 {
			wantNoSeal(t, append(bytes.Clone(b), byte(x)))
		}
		wantNoSeal(t, append(bytes.Clone(b), b...))
		wantNoSeal(t, append([]byte{0}, b...))
	}
}

// Each of the two checksums must hold, and the length must be that of the bytes behind the header, even where all else fits.
func TestP3_1OpenOfAForgedHeader(t *testing.T) {
	sum := crc32.ChecksumIEEE([]byte("ab"))
	wantOpen(t, append(plainHeader(2, sum), "ab"...), "ab")
	wantNoSeal(t, append(plainHeader(2, sum), "abc"...))
	wantNoSeal(t, append(plainHeader(3, sum), "ab"...))
	wantNoSeal(t, append(plainHeader(1, sum), "ab"...))
	wantNoSeal(t, append(plainHeader(0, 0), "ab"...))
	wantNoSeal(t, append(plainHeader(2, sum+1), "ab"...))
	wantNoSeal(t, append(plainHeader(2, 0), "ab"...))
	for _, size := range []uint32{1 << 16, 1 << 31, math.MaxInt32, math.MaxUint32 - 11, math.MaxUint32} {
		wantNoSeal(t, append(plainHeader(size, sum), "ab"...))
		wantNoSeal(t, plainHeader(size, 0))
	}
	wantNoSeal(t, make([]byte, 12))
	wantNoSeal(t, bytes.Repeat([]byte{0xff}, 12))
	turned := append(plainHeader(2, sum), "ab"...)
	copy(turned, []byte{0, 0, 0, 2})
	wantNoSeal(t, turned)
}

func TestP3_1ScanExamples(t *testing.T) {
	wantScan(t, nil, nil, 0, true)
	wantScan(t, []byte{}, nil, 0, true)
	wantScan(t, plainSeal(""), []string{""}, 12, true)
	wantScan(t, plainSeal("ab"), []string{"ab"}, 14, true)
	wantScan(t, plainLog("one", "", "one"), []string{"one", "", "one"}, 42, true)
}

func TestP3_1ScanOfALogCutAtEachByte(t *testing.T) {
	texts := []string{"one", "", "one", "\x00", strings.Repeat("long", 80), "", ""}
	log := plainLog(texts...)
	for n := range len(log) + 1 {
		count, size := 0, 0
		for count < len(texts) && size+12+len(texts[count]) <= n {
			size += 12 + len(texts[count])
			count++
		}
		wantScan(t, bytes.Clone(log[:n]), texts[:count], size, true)
		wantScan(t, log[:n], texts[:count], size, true) // the rest lies in the spare capacity
	}
}

func TestP3_1ScanOfALogWithAChangedBit(t *testing.T) {
	texts := []string{"one", "", "one", "two, and longer"}
	log := plainLog(texts...)
	for n := range 8 * len(log) {
		changed := bytes.Clone(log)
		changed[n/8] ^= 1 << (n % 8)
		count, size := 0, 0
		for size+12+len(texts[count]) <= n/8 {
			size += 12 + len(texts[count])
			count++
		}
		wantScan(t, changed, texts[:count], size, false)
	}
}

func TestP3_1ScanOfAFewBytesBehind(t *testing.T) {
	log := plainLog("a", "bc")
	for size := range 12 {
		for _, x := range []byte{0, 1, 0x80, 0xff} {
			b := append(bytes.Clone(log), bytes.Repeat([]byte{x}, size)...)
			wantScan(t, b, []string{"a", "bc"}, len(log), true)
			wantScan(t, b[len(log):], nil, 0, true)
		}
	}
	for x := range 256 {
		b := append(bytes.Clone(log), bytes.Repeat([]byte{byte(x)}, 12)...)
		// Four bytes 0xff are their own checksum: twelve of them are a header, of a byte string that goes beyond the end.
		wantScan(t, b, []string{"a", "bc"}, len(log), x == 0xff)
		wantScan(t, b[len(log):], nil, 0, x == 0xff)
	}
}

// A header alone tells how far its byte string goes: its own checksum decides whether it is believed, that of the byte
// string does not matter before all of it is there.
func TestP3_1ScanOfAHeaderThatTellsMoreThanThereIs(t *testing.T) {
	for _, before := range []string{"", "a"} {
		log, texts := plainLog(), []string(nil)
		if before != "" {
			log, texts = plainLog(before), []string{before}
		}
		for _, size := range []uint32{4, 5, 300, 1 << 31, math.MaxInt32, math.MaxUint32 - 11, math.MaxUint32} {
			head := append(plainHeader(size, 77), "abc"...)
			wantScan(t, append(bytes.Clone(log), head...), texts, len(log), true)
			for k := range 8 {
				changed := bytes.Clone(head)
				changed[k] ^= 1
				wantScan(t, append(bytes.Clone(log), changed...), texts, len(log), false)
			}
		}
		for size := range uint32(4) {
			head := append(plainHeader(size, 77), "abc"...)
			wantScan(t, append(bytes.Clone(log), head...), texts, len(log), false)
		}
	}
}

// What comes behind a corrupt seal is not read, though it be well.
func TestP3_1ScanEndsAtTheFirstFault(t *testing.T) {
	log := plainLog("one", "two", "three")
	log[15+13] ^= 4
	wantScan(t, log, []string{"one"}, 15, false)
	log[12] ^= 4
	wantScan(t, log, nil, 0, false)
	wantScan(t, append([]byte{0}, plainLog("one", "two")...), nil, 0, false)
}

func TestP3_1ScanOfAnyLog(t *testing.T) {
	r := rand.New(rand.NewSource(4))
	for range 20_000 {
		var log []byte
		for range r.Intn(6) {
			log = append(log, plainSeal(anyText(r, 20))...)
		}
		switch r.Intn(4) {
		case 0:
			log = log[:r.Intn(len(log)+1)]
		case 1:
			log = append(log, anyText(r, 20)...)
		case 2:
			log = append(log, plainHeader(uint32(r.Intn(8)), 0)...)
			log = append(log, make([]byte, r.Intn(8))...)
		}
		if len(log) > 0 && r.Intn(3) == 0 {
			log[r.Intn(len(log))] ^= byte(r.Intn(256))
		}
		texts, size, cut := plainScan(log)
		wantScan(t, log, texts, size, cut)
		if size == len(log) && len(texts) == 1 {
			wantOpen(t, log, texts[0])
		} else {
			wantNoSeal(t, log)
		}
	}
}

func TestP3_1ScanOfALongLog(t *testing.T) {
	log := bytes.Repeat(plainSeal(""), 100_000)
	found, size, cut := crc.Scan(log)
	if len(found) != 100_000 || size != len(log) || !cut {
		t.Errorf("%d, %d, %v", len(found), size, cut)
	}
}

// spoil overwrites b and its spare capacity.
func spoil(b []byte) {
	b = b[:cap(b)]
	for k := range b {
		b[k] ^= 0xff
	}
}

// The answers are new memory: P0.3.
func TestP3_1SharesNothing(t *testing.T) {
	text := []byte("abc")
	first, second := crc.Seal(text), crc.Seal(text)
	spoil(first)
	if !bytes.Equal(second, plainSeal("abc")) || string(text) != "abc" {
		t.Error("two seals share memory, or one with its text")
	}
	opened, _ := crc.Open(second)
	spoil(opened)
	wantOpen(t, second, "abc")
	opened, _ = crc.Open(second)
	spoil(second)
	if string(opened) != "abc" {
		t.Error("an opened text shares memory with its seal")
	}

	log := plainLog("one", "", "two", "", "three")
	want := []string{"one", "", "two", "", "three"}
	found, _, _ := crc.Scan(log)
	again, _, _ := crc.Scan(log)
	for k := range found {
		spoil(found[k])
		for n := range again {
			if string(again[n]) != want[n] || n > k && string(found[n]) != want[n] {
				t.Errorf("string %d shares memory with string %d", k, n)
			}
		}
	}
	wantScan(t, log, want, len(log), true)
}

// The lists are left alone, with what lies behind them: P0.3.
func TestP3_1ChangesNothing(t *testing.T) {
	for _, size := range []int{0, 3, 14, 20, 28} {
		whole := plainLog("ab", "cd", "ef")
		b := whole[:size]
		crc.Sum(b)
		crc.Seal(b)
		crc.Open(b)
		crc.Scan(b)
		if !bytes.Equal(whole, plainLog("ab", "cd", "ef")) {
			t.Errorf("%d bytes: the list was changed: %x", size, whole)
		}
	}
}
