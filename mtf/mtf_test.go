package mtf_test

import (
	"bytes"
	"math/rand"
	"slices"
	"testing"

	"folio/mtf"
)

// plainList is the list that both functions begin with.
func plainList() []byte {
	var list []byte
	for x := range 256 {
		list = append(list, byte(x))
	}
	return list
}

// plainMove is list with the byte at index at its front: made anew, so that no fault of moving in place is shared.
func plainMove(list []byte, index int) []byte {
	moved := []byte{list[index]}
	for k, x := range list {
		if k != index {
			moved = append(moved, x)
		}
	}
	return moved
}

// plainEncode is what Encode should answer.
func plainEncode(b []byte) []byte {
	var out []byte
	list := plainList()
	for _, x := range b {
		index := slices.Index(list, x)
		out = append(out, byte(index))
		list = plainMove(list, index)
	}
	return out
}

// plainDecode is what Decode should answer.
func plainDecode(b []byte) []byte {
	var out []byte
	list := plainList()
	for _, index := range b {
		out = append(out, list[index])
		list = plainMove(list, int(index))
	}
	return out
}

func anyBytes(r *rand.Rand, most int) []byte {
	b := make([]byte, r.Intn(most+1))
	few := 1 + r.Intn(256) // how many byte values may occur
	for k := range b {
		b[k] = byte(r.Intn(few) + 256 - few)
	}
	return b
}

func wantEncode(t *testing.T, b, want []byte) {
	t.Helper()
	if got := mtf.Encode(b); !bytes.Equal(got, want) {
		t.Errorf("Encode(%x): %x, not %x", b, got, want)
	}
}

func wantDecode(t *testing.T, b, want []byte) {
	t.Helper()
	if got := mtf.Decode(b); !bytes.Equal(got, want) {
		t.Errorf("Decode(%x): %x, not %x", b, got, want)
	}
}

func TestP4_1Examples(t *testing.T) {
	for _, x := range []struct{ b, indices string }{
		{"\x02\x02\x00\xff\x02\x01", "\x02\x00\x01\xff\x02\x03"},
		{"\x00", "\x00"},
		{"\x00\x00\x00", "\x00\x00\x00"},
		{"\xff\xff\xff", "\xff\x00\x00"},
		{"\xff\xfe\xfd", "\xff\xff\xff"},
		{"\x01\x00\x01\x00", "\x01\x01\x01\x01"},
		{"\x00\x01\x02\x03", "\x00\x01\x02\x03"},
		{"\x03\x02\x01\x00", "\x03\x03\x03\x03"},
		{"annbaa", "\x61\x6e\x00\x63\x02\x00"},
	} {
		wantEncode(t, []byte(x.b), []byte(x.indices))
		wantDecode(t, []byte(x.indices), []byte(x.b))
	}
}

// No bytes: nil, not only a list without elements.
func TestP4_1NoBytes(t *testing.T) {
	for _, b := range [][]byte{nil, {}, make([]byte, 0, 9), []byte("abc")[:0]} {
		if got := mtf.Encode(b); got != nil {
			t.Errorf("Encode: %#v", got)
		}
		if got := mtf.Decode(b); got != nil {
			t.Errorf("Decode: %#v", got)
		}
	}
}

func TestP4_1EachTwoBytes(t *testing.T) {
	for x := range 256 {
		for y := range 256 {
			index := y
			switch {
			case y == x:
				index = 0
			case y < x:
				index = y + 1
			}
			b, indices := []byte{byte(x), byte(y)}, []byte{byte(x), byte(index)}
			wantEncode(t, b, indices)
			wantDecode(t, indices, b)
		}
	}
}

// After one byte was moved, each place of the list is asked: what lay ahead of the byte went one back, what lay behind
// it stayed.
func TestP4_1WholeListAfterAMove(t *testing.T) {
	for x := range 256 {
		list := plainMove(plainList(), x)
		for place, y := range list {
			wantEncode(t, []byte{byte(x), y}, []byte{byte(x), byte(place)})
			wantDecode(t, []byte{byte(x), byte(place)}, []byte{byte(x), y})
		}
	}
}

// The last index, 256 times, tells the whole list from its back to its front, after any number of moves.
func TestP4_1WholeListAfterManyMoves(t *testing.T) {
	r := rand.New(rand.NewSource(1))
	for range 100 {
		lead := anyBytes(r, 600)
		indices := append(plainEncode(lead), bytes.Repeat([]byte{255}, 256)...)
		b := plainDecode(indices)
		wantDecode(t, indices, b)
		wantEncode(t, b, indices)
	}
}

func TestP4_1EachShortTextOfFewBytes(t *testing.T) {
	values := []byte{0, 1, 2, 254, 255}
	for n := range 5 * 5 * 5 * 5 * 5 * 5 {
		var b []byte
		for range 6 {
			b = append(b, values[n%5])
			n /= 5
		}
		wantEncode(t, b, plainEncode(b))
		wantDecode(t, b, plainDecode(b))
	}
}

func TestP4_1AnyBytes(t *testing.T) {
	r := rand.New(rand.NewSource(2))
	for range 2_000 {
		b := anyBytes(r, 500)
		wantEncode(t, b, plainEncode(b))
		wantDecode(t, b, plainDecode(b))
	}
}

func TestP4_1EachIsTheInverseOfTheOther(t *testing.T) {
	r := rand.New(rand.NewSource(3))
	for range 5_000 {
		b := anyBytes(r, 1000)
		wantDecode(t, mtf.Encode(b), b)
		wantEncode(t, mtf.Decode(b), b)
	}
}

func TestP4_1LongTexts(t *testing.T) {
	whole := plainList()
	slices.Reverse(whole)
	for _, x := range []string{"\x00", "\xff", "\xff\x00", "folio ", string(whole)} {
		b := bytes.Repeat([]byte(x), 1<<20/len(x))
		if got := mtf.Decode(mtf.Encode(b)); !bytes.Equal(got, b) {
			t.Errorf("%d bytes of %x: not the same behind Encode and Decode", len(b), x)
		}
		if got := mtf.Encode(mtf.Decode(b)); !bytes.Equal(got, b) {
			t.Errorf("%d bytes of %x: not the same behind Decode and Encode", len(b), x)
		}
	}
	if got := mtf.Encode(bytes.Repeat([]byte{7}, 1<<20)); got[0] != 7 || bytes.Count(got, []byte{0}) != len(got)-1 {
		t.Error("a long run is not its byte and zeros")
	}
}

// Each call begins with the list in ascending order: P0.5.
func TestP4_1CallsAreApart(t *testing.T) {
	for range 3 {
		wantEncode(t, []byte{9, 255, 9}, []byte{9, 255, 1})
		wantDecode(t, []byte{9, 255, 1}, []byte{9, 255, 9})
		wantEncode(t, []byte{0}, []byte{0})
		wantDecode(t, []byte{0}, []byte{0})
	}
}

// The answers are new memory, and the lists are left alone with what lies behind them: P0.3.
func TestP4_1SharesNothing(t *testing.T) {
	for _, call := range []func([]byte) []byte{mtf.Encode, mtf.Decode} {
		for size := range 7 {
			whole := []byte("\x03\x01\x03\xff\x00\x07behind")
			b := whole[:size]
			want := bytes.Clone(call(b))
			first, second := call(b), call(b)
			first = first[:cap(first)]
			for k := range first {
				first[k] ^= 0xff
			}
			if !bytes.Equal(second, want) || !bytes.Equal(call(b), want) {
				t.Errorf("%d bytes: two answers share memory", size)
			}
			if string(whole) != "\x03\x01\x03\xff\x00\x07behind" {
				t.Errorf("%d bytes: the list was changed: %x", size, whole)
			}
			for k := range whole {
				whole[k] ^= 0xff
			}
			if !bytes.Equal(second, want) {
				t.Errorf("%d bytes: the answer follows its list", size)
			}
		}
	}
}
