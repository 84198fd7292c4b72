package parity_test

import (
	"bytes"
	"math"
	"slices"
	"testing"

	"folio/parity"
)

// badAt gives bad for four members and their parity: pairs of a member and one of its sectors.
func badAt(pairs ...[2]int) [][]bool {
	bad := make([][]bool, 5)
	for _, x := range pairs {
		one := bad[x[0]]
		for len(one) <= x[1] {
			one = append(one, false)
		}
		one[x[1]] = true
		bad[x[0]] = one
	}
	return bad
}

func TestP17_1SectorsExample(t *testing.T) {
	sizes := exampleSizes()
	l := members(sizes...)
	par := parity.Make(l)
	for _, x := range []struct {
		bad [][]bool
		ok  bool
	}{
		{badAt([2]int{0, 0}, [2]int{3, 1}), true},
		{badAt([2]int{0, 0}, [2]int{2, 0}), false},
		{badAt([2]int{0, 0}, [2]int{4, 0}), false},
		{badAt([2]int{0, 0}, [2]int{4, 1}), true},
		{badAt(), true},
	} {
		in := spoilt(l, x.bad)
		if x.ok {
			wantSectors(t, in, par, sizes, x.bad, l)
		} else {
			wantNoSectors(t, "two in a stripe", in, par, sizes, x.bad)
		}
	}
}

// Each two sectors, of the members, of par, and behind the end of each, with one list or several telling of them.
func TestP17_1SectorsEachTwo(t *testing.T) {
	sizes := exampleSizes()
	l := members(sizes...)
	par := parity.Make(l)
	reached := []int{3, 0, 1, 4} // the stripes that each member reaches
	counts := func(x [2]int) bool { return x[0] < 4 && x[1] < reached[x[0]] }
	for n := range 30 * 30 {
		a, b := [2]int{n / 30 / 6, n / 30 % 6}, [2]int{n % 30 / 6, n % 30 % 6}
		bad := badAt(a, b)
		in := spoilt(l, bad)
		members := counts(a) && counts(b)
		beside := counts(a) && b[0] == 4 || counts(b) && a[0] == 4
		if a != b && a[1] == b[1] && (members || beside) {
			wantNoSectors(t, "two in a stripe", in, par, sizes, bad)
		} else {
			wantSectors(t, in, par, sizes, bad, l)
		}
	}
}

// A bad sector of par counts only where a member has one, and its bytes are not looked at else.
func TestP17_1SectorsOfPar(t *testing.T) {
	sizes := exampleSizes()
	l := members(sizes...)
	par := parity.Make(l)
	for k := range par {
		if k/sector != 2 {
			par[k] ^= 99
		}
	}
	all := []bool{true, true, false, true, true, true}
	wantSectors(t, l, par, sizes, [][]bool{nil, nil, nil, nil, all}, l)
	bad := [][]bool{{false, false, true}, {true, true}, {false, true, false, true}, nil, all}
	wantSectors(t, spoilt(l, bad), par, sizes, bad, l)
	bad = [][]bool{nil, nil, nil, {false, false, true}, all}
	wantSectors(t, spoilt(l, bad), par, sizes, bad, l)
	for i, k := range []int{0, -1, 0, 3} {
		if k >= 0 {
			wantNoSectors(t, "beside par", l, par, sizes, badAt([2]int{i, k}, [2]int{4, k}))
		}
	}
}

// The last sector of a member may have fewer bytes than 64, and another member may have more there.
func TestP17_1SectorsEachSize(t *testing.T) {
	few := []int{0, 1, 63, 64, 65, 127, 128, 129}
	for _, a := range few {
		for _, b := range few {
			for _, c := range few {
				sizes := []int{a, b, c}
				l := members(sizes...)
				par := parity.Make(l)
				for stripes := range 27 {
					bad := make([][]bool, 4)
					for k, i := range []int{stripes % 3, stripes / 3 % 3, stripes / 9} {
						bad[i] = append(bad[i], make([]bool, k+1-len(bad[i]))...)
						bad[i][k] = true
					}
					wantSectors(t, spoilt(l, bad), par, sizes, bad, l)
				}
			}
		}
	}
}

// A whole member is bad, and the lists are longer than the members.
func TestP17_1SectorsLongLists(t *testing.T) {
	sizes := exampleSizes()
	l := members(sizes...)
	par := parity.Make(l)
	long := slices.Repeat([]bool{true}, 1000)
	wantSectors(t, l, par, sizes, [][]bool{nil, long, nil, nil, long}, l)
	for i := range l {
		bad := [][]bool{nil, long, nil, nil, nil}
		bad[i] = long
		wantSectors(t, spoilt(l, bad), par, sizes, bad, l)
	}
	wantSectors(t, l, par, sizes, [][]bool{make([]bool, 1000), {}, make([]bool, 1), make([]bool, 4), make([]bool, 1000)}, l)
	bad := [][]bool{nil, nil, slices.Repeat([]bool{true}, 9), {false, true, true, true, true}, {true, false}}
	wantNoSectors(t, "beside par", spoilt(l, bad), par, sizes, bad)
	bad[4][0] = false
	wantSectors(t, spoilt(l, bad), par, sizes, bad, l)
}

func TestP17_1SectorsFewMembers(t *testing.T) {
	wantSectors(t, nil, nil, nil, make([][]bool, 1), nil)
	wantSectors(t, [][]byte{}, []byte{}, []int{}, [][]bool{{true, true}}, nil)
	wantNoSectors(t, "no element for par", nil, nil, nil, nil)
	wantNoSectors(t, "a parity of none", nil, []byte{0}, nil, make([][]bool, 1))
	for _, size := range []int{0, 1, 64, 300} {
		l := members(size)
		bad := [][]bool{{true, false, true, true, true, true}, {false, true}}
		wantSectors(t, spoilt(l, bad), l[0], []int{size}, bad, l)
	}
	wantSectors(t, [][]byte{nil, {}}, nil, []int{0, 0}, [][]bool{{true}, {true}, {true}}, [][]byte{nil, nil})
}

func TestP17_1SectorsOtherLengths(t *testing.T) {
	sizes := exampleSizes()
	l := members(sizes...)
	par := parity.Make(l)
	for n := range 8 {
		if n != 4 {
			other := append(slices.Clone(l), nil, nil, nil, nil)[:n]
			otherSizes := append(slices.Clone(sizes), 0, 0, 0, 0)[:n]
			wantNoSectors(t, "members", other, par, sizes, make([][]bool, 5))
			wantNoSectors(t, "sizes", l, par, otherSizes, make([][]bool, 5))
			wantNoSectors(t, "members and sizes", other, par, otherSizes, make([][]bool, 5))
			wantNoSectors(t, "members and bad", other, par, sizes, make([][]bool, n+1))
		}
		if n != 5 {
			wantNoSectors(t, "bad", l, par, sizes, make([][]bool, n))
		}
	}
	wantNoSectors(t, "no bad", l, par, sizes, nil)
	for _, n := range []int{0, 1, 130, 199, 201, 256} {
		wantNoSectors(t, "parity", l, noise(1, n), sizes, make([][]bool, 5))
		wantNoSectors(t, "parity", l, noise(1, n), sizes, badAt([2]int{0, 0}))
	}
}

func TestP17_1SectorsOtherSizes(t *testing.T) {
	right := exampleSizes()
	l := members(right...)
	par := parity.Make(l)
	for i := range l {
		for _, size := range []int{math.MinInt, -200, -64, -1, 0, 63, 64, 65, 129, 131, 199, 201, 1 << 40, math.MaxInt - 63, math.MaxInt} {
			if size == right[i] {
				continue
			}
			sizes := slices.Clone(right)
			sizes[i] = size
			wantNoSectors(t, "another size", l, par, sizes, make([][]bool, 5))
			wantNoSectors(t, "another size, bad", l, par, sizes, badAt([2]int{i, 0}))
		}
		// Bad ones have their size too.
		for _, b := range [][]byte{l[i][:len(l[i])/2], append(bytes.Clone(l[i]), 0)} {
			x := slices.Clone(l)
			x[i] = b
			if len(b) != right[i] {
				wantNoSectors(t, "another member", x, par, right, badAt([2]int{i, 0}, [2]int{i, 1}))
			}
		}
	}
}

// Good sectors are left as they are, whatever par says, and bad ones are what par says.
func TestP17_1SectorsAnotherParity(t *testing.T) {
	sizes := exampleSizes()
	l := members(sizes...)
	par := parity.Make(l)
	par[3], par[70], par[199] = par[3]^5, par[70]^6, par[199]^7
	wantSectors(t, l, par, sizes, make([][]bool, 5), l)
	want := [][]byte{bytes.Clone(l[0]), l[1], l[2], bytes.Clone(l[3])}
	want[0][70] ^= 6
	want[3][3] ^= 5
	bad := badAt([2]int{0, 1}, [2]int{3, 0}, [2]int{3, 2})
	wantSectors(t, spoilt(l, bad), par, sizes, bad, want)
}

// Many members and many stripes: the work grows with the bytes, not with the stripes of all members.
func TestP17_1ManyMembers(t *testing.T) {
	sizes := make([]int, 200_000)
	for i := range sizes {
		sizes[i] = i % 3
	}
	sizes[100_000] = 8_000_000
	l := members(sizes...)
	par := parity.Make(l)
	bad := make([][]bool, len(l)+1)
	bad[100_000] = slices.Repeat([]bool{true}, 125_000)
	bad[len(l)] = make([]bool, 125_000)
	wantSame := func(got [][]byte, ok bool) {
		t.Helper()
		if !ok || !same(got, l) {
			t.Error("not the members")
		}
	}
	in := slices.Clone(l)
	in[100_000] = make([]byte, 8_000_000)
	wantSame(parity.Sectors(in, par, sizes, bad))
	in[100_000] = nil
	wantSame(parity.Repair(in, par, sizes, marks(len(l), 100_000)))
}
