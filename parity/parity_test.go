package parity_test

import (
	"bytes"
	"math"
	"slices"
	"testing"

	"folio/parity"
)

// sector is held apart from the constant of api, as the chapter tells it.
const sector = 64

// noise gives n bytes, other ones for each start.
func noise(start, n int) []byte {
	b := make([]byte, n)
	x := uint32(start)*2654435761 + 1
	for k := range b {
		x = x*1664525 + 1013904223
		b[k] = byte(x >> 24)
	}
	return b
}

// members gives a member of each size.
func members(sizes ...int) [][]byte {
	var l [][]byte
	for i, size := range sizes {
		l = append(l, noise(i, size))
	}
	return l
}

// exampleSizes are those of the chapter's examples.
func exampleSizes() []int { return []int{130, 0, 64, 200} }

func same(a, b [][]byte) bool { return slices.EqualFunc(a, b, bytes.Equal) }

// spoilt is l with each byte of the bad sectors changed.
func spoilt(l [][]byte, bad [][]bool) [][]byte {
	var out [][]byte
	for i, b := range l {
		b = bytes.Clone(b)
		for k := range b {
			if k/sector < len(bad[i]) && bad[i][k/sector] {
				b[k] ^= byte(k%255 + 1)
			}
		}
		out = append(out, b)
	}
	return out
}

// marks gives what tells of n elements that those at the places are marked.
func marks(n int, places ...int) []bool {
	l := make([]bool, n)
	for _, k := range places {
		l[k] = true
	}
	return l
}

func wantMake(t *testing.T, l [][]byte, want []byte) {
	t.Helper()
	if par := parity.Make(l); !bytes.Equal(par, want) {
		t.Fatalf("Make of %x: %x, not %x", l, par, want)
	}
}

func wantRepair(t *testing.T, l [][]byte, par []byte, sizes []int, lost []bool, want [][]byte) {
	t.Helper()
	if got, ok := parity.Repair(l, par, sizes, lost); !ok || !same(got, want) {
		t.Fatalf("Repair, sizes %v, lost %v: %x, %v; not %x", sizes, lost, got, ok, want)
	}
}

func wantNoRepair(t *testing.T, what string, l [][]byte, par []byte, sizes []int, lost []bool) {
	t.Helper()
	if got, ok := parity.Repair(l, par, sizes, lost); ok || got != nil {
		t.Fatalf("%s: Repair, sizes %v, lost %v: %x, %v; not nil and false", what, sizes, lost, got, ok)
	}
}

func wantSectors(t *testing.T, l [][]byte, par []byte, sizes []int, bad [][]bool, want [][]byte) {
	t.Helper()
	if got, ok := parity.Sectors(l, par, sizes, bad); !ok || !same(got, want) {
		t.Fatalf("Sectors, sizes %v, bad %v: %x, %v; not %x", sizes, bad, got, ok, want)
	}
}

func wantNoSectors(t *testing.T, what string, l [][]byte, par []byte, sizes []int, bad [][]bool) {
	t.Helper()
	if got, ok := parity.Sectors(l, par, sizes, bad); ok || got != nil {
		t.Fatalf("%s: Sectors, sizes %v, bad %v: %x, %v; not nil and false", what, sizes, bad, got, ok)
	}
}

func TestP17_1Make(t *testing.T) {
	for _, x := range []struct {
		l    []string
		want string
	}{
		{[]string{"abc"}, "abc"},
		{[]string{"\x01\x02\x03", "\x10\x20\x30"}, "\x11\x22\x33"},
		{[]string{"\x01\x02\x03", "\x10"}, "\x11\x02\x03"},
		{[]string{"\x10", "\x01\x02\x03"}, "\x11\x02\x03"},
		{[]string{"abc", "abc"}, "\x00\x00\x00"},
		{[]string{"abc", "abc", "abc"}, "abc"},
		{[]string{"\xff\xff", "\x0f", "", "\x01\x02\x03"}, "\xf1\xfd\x03"},
		{[]string{"\xff\x00", "\x00\x00\x00"}, "\xff\x00\x00"},
		{[]string{""}, ""},
		{[]string{"", "", ""}, ""},
	} {
		var l [][]byte
		for _, s := range x.l {
			l = append(l, []byte(s))
		}
		wantMake(t, l, []byte(x.want))
	}
}

func TestP17_1MakeExample(t *testing.T) {
	l := members(exampleSizes()...)
	par := parity.Make(l)
	if len(par) != 200 || par[199] != l[3][199] {
		t.Errorf("%d bytes, the last of which is %x, not %x", len(par), par[len(par)-1], l[3][199])
	}
	if par[0] != l[0][0]^l[2][0]^l[3][0] || par[64] != l[0][64]^l[3][64] || par[130] != l[3][130] {
		t.Error("not the exclusive or of the members")
	}
}

// No members: nil, not only a list without elements.
func TestP17_1MakeOfNone(t *testing.T) {
	for _, l := range [][][]byte{nil, {}, members(5)[:0]} {
		if par := parity.Make(l); par != nil {
			t.Errorf("%#v", par)
		}
	}
	wantMake(t, [][]byte{nil, {}, nil}, nil)
	wantMake(t, [][]byte{nil, []byte("ab"), {}}, []byte("ab"))
}

func TestP17_1RepairExample(t *testing.T) {
	sizes := exampleSizes()
	l := members(sizes...)
	par := parity.Make(l)
	wantRepair(t, l, par, sizes, marks(4), l)
	for i := range l {
		// The bytes of a lost member are ignored, and how many there are, too.
		for _, other := range [][]byte{nil, []byte("junk"), make([]byte, sizes[i]), noise(77, sizes[i]), noise(78, 1000)} {
			x := slices.Clone(l)
			x[i] = other
			wantRepair(t, x, par, sizes, marks(4, i), l)
			if len(other) != sizes[i] {
				wantNoRepair(t, "not marked as lost", x, par, sizes, marks(4))
				wantNoRepair(t, "another one is lost", x, par, sizes, marks(4, (i+1)%4))
			}
		}
		wantNoRepair(t, "parity shortened", l, par[:199], sizes, marks(4, i))
		for k := range i {
			wantNoRepair(t, "two lost", l, par, sizes, marks(4, i, k))
		}
	}
	wantNoRepair(t, "parity shortened, none lost", l, par[:199], sizes, marks(4))
	wantNoRepair(t, "all lost", l, par, sizes, marks(4, 0, 1, 2, 3))
}

// Of any sizes, each member is lost once, the longest one and the shortest one too.
func TestP17_1RepairEachSize(t *testing.T) {
	few := []int{0, 1, 63, 64, 65, 127, 128, 129}
	for _, a := range few {
		for _, b := range few {
			for _, c := range few {
				sizes := []int{a, b, c}
				l := members(sizes...)
				par := parity.Make(l)
				for i := range l {
					x := slices.Clone(l)
					x[i] = nil
					wantRepair(t, x, par, sizes, marks(3, i), l)
				}
			}
		}
	}
}

func TestP17_1RepairFewMembers(t *testing.T) {
	wantRepair(t, nil, nil, nil, nil, nil)
	wantRepair(t, [][]byte{}, []byte{}, []int{}, []bool{}, nil)
	wantNoRepair(t, "a parity of none", nil, []byte{0}, nil, nil)
	for _, size := range []int{0, 1, 64, 300} {
		l := members(size)
		wantRepair(t, l, l[0], []int{size}, marks(1), l)
		wantRepair(t, [][]byte{nil}, l[0], []int{size}, marks(1, 0), l)
	}
	wantRepair(t, [][]byte{nil, []byte("junk")}, nil, []int{0, 0}, marks(2, 1), [][]byte{nil, nil})
	wantNoRepair(t, "two lost, without bytes", [][]byte{nil, nil}, nil, []int{0, 0}, marks(2, 0, 1))
}

func TestP17_1RepairOtherLengths(t *testing.T) {
	sizes := exampleSizes()
	l := members(sizes...)
	par := parity.Make(l)
	for n := range 6 {
		if n == 4 {
			continue
		}
		other := append(slices.Clone(l), nil, nil)[:n]
		otherSizes := append(slices.Clone(sizes), 0, 0)[:n]
		wantNoRepair(t, "members", other, par, sizes, marks(4))
		wantNoRepair(t, "sizes", l, par, otherSizes, marks(4))
		wantNoRepair(t, "lost", l, par, sizes, marks(n))
		wantNoRepair(t, "members and sizes", other, par, otherSizes, marks(4))
		wantNoRepair(t, "members and lost", other, par, sizes, marks(n))
		wantNoRepair(t, "sizes and lost", l, par, otherSizes, marks(n))
		if n > 0 {
			wantNoRepair(t, "lost, and one marked", l, par, sizes, marks(n, n-1))
		}
	}
	wantNoRepair(t, "no members", nil, par, sizes, marks(4))
	wantNoRepair(t, "no sizes", l, par, nil, marks(4))
	wantNoRepair(t, "no lost", l, par, sizes, nil)
	for _, n := range []int{0, 1, 130, 199, 201, 256} {
		for i := range 4 {
			wantNoRepair(t, "parity", l, noise(1, n), sizes, marks(4, i))
		}
		wantNoRepair(t, "parity", l, noise(1, n), sizes, marks(4))
	}
}

func TestP17_1RepairOtherSizes(t *testing.T) {
	right := exampleSizes()
	l := members(right...)
	par := parity.Make(l)
	for i := range l {
		for _, size := range []int{math.MinInt, -64, -1, 0, 63, 65, 129, 131, 199, 201, 1 << 40, math.MaxInt - 63, math.MaxInt} {
			sizes := slices.Clone(right)
			sizes[i] = size
			if size != right[i] {
				wantNoRepair(t, "a member of another size", l, par, sizes, marks(4))
				wantNoRepair(t, "beside a lost one", l, par, sizes, marks(4, (i+1)%4))
			}
			// Without the longest one, par is too long.
			if size < 0 || size > 200 || i == 3 && size != 200 {
				wantNoRepair(t, "a lost one", l, par, sizes, marks(4, i))
			}
		}
	}
	// A size that no other member contradicts: as far as par tells it.
	wantRepair(t, l, par, []int{65, 0, 64, 200}, marks(4, 0), [][]byte{l[0][:65], nil, l[2], l[3]})
	wantRepair(t, l, par, []int{132, 0, 64, 200}, marks(4, 0), [][]byte{append(bytes.Clone(l[0]), 0, 0), nil, l[2], l[3]})
}

// The parity is not asked where nothing is lost, and is taken at its word where a member is.
func TestP17_1RepairAnotherParity(t *testing.T) {
	sizes := exampleSizes()
	l := members(sizes...)
	par := parity.Make(l)
	par[3] ^= 5
	par[199] ^= 6
	wantRepair(t, l, par, sizes, marks(4), l)
	for i, at := range []int{3, -1, 3, 3} {
		want := slices.Clone(l)
		want[i] = bytes.Clone(l[i])
		if at >= 0 {
			want[i][at] ^= 5
		}
		if i == 3 {
			want[i][199] ^= 6
		}
		wantRepair(t, l, par, sizes, marks(4, i), want)
	}
}
