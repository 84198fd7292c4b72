package parity_test

import (
	"bytes"
	"math/rand"
	"slices"
	"testing"

	"folio/parity"
)

// byteAt is a byte of b that is extended by zero bytes.
func byteAt(b []byte, k int) byte {
	if k < len(b) {
		return b[k]
	}
	return 0
}

// others is the exclusive or of the bytes at k of par and of all members but one, or of all where that one is -1.
func others(l [][]byte, par []byte, but, k int) byte {
	x := byteAt(par, k)
	for i, b := range l {
		if i != but {
			x ^= byteAt(b, k)
		}
	}
	return x
}

// plainMake is what Make should answer.
func plainMake(l [][]byte) []byte {
	longest := 0
	for _, b := range l {
		longest = max(longest, len(b))
	}
	var par []byte
	for k := range longest {
		par = append(par, others(l, nil, -1, k))
	}
	return par
}

// plainRepair is what Repair should answer.
func plainRepair(l [][]byte, par []byte, sizes []int, lost []bool) ([][]byte, bool) {
	if len(l) != len(sizes) || len(l) != len(lost) {
		return nil, false
	}
	count, greatest := 0, 0
	for i, b := range l {
		if lost[i] {
			count++
		} else if len(b) != sizes[i] {
			return nil, false
		}
		if sizes[i] < 0 {
			return nil, false
		}
		greatest = max(greatest, sizes[i])
	}
	if count > 1 || len(par) != greatest {
		return nil, false
	}
	var out [][]byte
	for i, b := range l {
		if lost[i] {
			b = nil
			for k := range sizes[i] {
				b = append(b, others(l, par, i, k))
			}
		}
		out = append(out, b)
	}
	return out, true
}

// plainBad tells whether bad says so of a sector.
func plainBad(bad [][]bool, i, stripe int) bool { return stripe < len(bad[i]) && bad[i][stripe] }

// plainStripe puts the stripe of out right, and tells whether that can be.
func plainStripe(out, l [][]byte, par []byte, bad [][]bool, stripe int) bool {
	at, count := -1, 0
	for i, b := range l {
		if len(b) > sector*stripe && plainBad(bad, i, stripe) {
			at = i
			count++
		}
	}
	if count > 0 && plainBad(bad, len(l), stripe) {
		count++
	}
	if count == 1 {
		for k := sector * stripe; k < min(sector*(stripe+1), len(l[at])); k++ {
			out[at][k] = others(l, par, at, k)
		}
	}
	return count <= 1
}

// plainSectors is what Sectors should answer.
func plainSectors(l [][]byte, par []byte, sizes []int, bad [][]bool) ([][]byte, bool) {
	if len(l) != len(sizes) || len(bad) != len(l)+1 {
		return nil, false
	}
	greatest := 0
	for i, b := range l {
		if sizes[i] < 0 || len(b) != sizes[i] {
			return nil, false
		}
		greatest = max(greatest, sizes[i])
	}
	if len(par) != greatest {
		return nil, false
	}
	var out [][]byte
	for _, b := range l {
		out = append(out, bytes.Clone(b))
	}
	for stripe := 0; sector*stripe < greatest; stripe++ {
		if !plainStripe(out, l, par, bad, stripe) {
			return nil, false
		}
	}
	return out, true
}

// anySize gives sizes at the borders of sectors and others.
func anySize(r *rand.Rand) int {
	if r.Intn(2) == 0 {
		return max(0, sector*r.Intn(4)+r.Intn(3)-1)
	}
	return r.Intn(300)
}

// anyMembers gives few members, their parity or another text of its length, and their sizes: now and then, one thing of
// these is longer or shorter than it should be.
func anyMembers(r *rand.Rand) ([][]byte, []byte, []int) {
	var sizes []int
	for range r.Intn(6) {
		sizes = append(sizes, anySize(r))
	}
	l := members(sizes...)
	par := plainMake(l)
	if r.Intn(4) == 0 {
		r.Read(par)
	}
	switch r.Intn(30) {
	case 0:
		par = noise(1, anySize(r))
	case 1:
		sizes = append(sizes, 0)
	case 2:
		l = append(l, nil)
	case 3, 4, 5:
		if len(l) > 0 {
			l[r.Intn(len(l))] = noise(2, anySize(r))
		}
	case 6, 7, 8:
		if len(sizes) > 0 {
			sizes[r.Intn(len(sizes))] = anySize(r) - 150
		}
	}
	return l, par, sizes
}

func anyLost(r *rand.Rand, n int) []bool {
	lost := make([]bool, n)
	for k := range lost {
		lost[k] = r.Intn(2*n) == 0
	}
	if r.Intn(30) == 0 {
		return append(lost, r.Intn(2) == 0)
	}
	return lost
}

// anyBad gives lists of any length, in which few sectors are bad or, now and then, many.
func anyBad(r *rand.Rand, n int) [][]bool {
	if r.Intn(30) == 0 {
		n++
	}
	one := 2 + r.Intn(30)
	bad := make([][]bool, n+1)
	for i := range bad {
		bad[i] = make([]bool, r.Intn(8))
		for k := range bad[i] {
			bad[i][k] = r.Intn(one) == 0
		}
	}
	return bad
}

func TestP17_1AnyMembers(t *testing.T) {
	r := rand.New(rand.NewSource(1))
	var repaired, mended [2]int
	for range 20_000 {
		l, par, sizes := anyMembers(r)
		wantMake(t, l, plainMake(l))
		lost := anyLost(r, len(l))
		if want, ok := plainRepair(l, par, sizes, lost); ok {
			repaired[1]++
			wantRepair(t, l, par, sizes, lost, want)
		} else {
			repaired[0]++
			wantNoRepair(t, "any members", l, par, sizes, lost)
		}
		bad := anyBad(r, len(l))
		if want, ok := plainSectors(l, par, sizes, bad); ok {
			mended[1]++
			wantSectors(t, l, par, sizes, bad, want)
		} else {
			mended[0]++
			wantNoSectors(t, "any members", l, par, sizes, bad)
		}
	}
	if min(repaired[0], repaired[1], mended[0], mended[1]) < 2000 {
		t.Errorf("too few of one kind: %v, %v", repaired, mended)
	}
}

// filled is b, that begins a longer piece of memory, with that piece.
func filled(b []byte) ([]byte, []byte) {
	whole := append(bytes.Clone(b), "behind"...)
	return whole[:len(b)], whole
}

// wipe changes all that a list of an answer holds, and what lies behind it.
func wipe(l [][]byte) {
	for _, b := range l[:cap(l)] {
		b = b[:cap(b)]
		for k := range b {
			b[k] ^= 0xff
		}
	}
	clear(l[:cap(l)])
}

// calls gives all three calls, with an answer of one form.
func calls(l [][]byte, par []byte, sizes []int, lost []bool, bad [][]bool) []func() [][]byte {
	return []func() [][]byte{
		func() [][]byte { return [][]byte{parity.Make(l)} },
		func() [][]byte { out, _ := parity.Repair(l, par, sizes, lost); return out },
		func() [][]byte { out, _ := parity.Sectors(l, par, sizes, bad); return out },
	}
}

// Answers are new memory, also of one member alone: P0.3. They are no other ones the second time: P0.5.
func TestP17_1SharesNothing(t *testing.T) {
	for _, sizes := range [][]int{{130, 0, 64, 200}, {200}, {64, 64}, {0, 5}} {
		for lost := range len(sizes) + 1 {
			l := members(append(slices.Clone(sizes), 9)...) // the last one lies behind the list
			var wholes [][]byte
			for i, b := range l {
				var whole []byte
				l[i], whole = filled(b)
				wholes = append(wholes, whole)
			}
			l = l[:len(sizes)]
			par, parWhole := filled(plainMake(l))
			wholes = append(wholes, parWhole)
			marked := marks(len(sizes)+1, lost)
			bad := make([][]bool, len(sizes)+1)
			bad[lost] = []bool{true, false}[:1]
			for n, call := range calls(l, par, sizes, marked[:len(sizes)], bad) {
				wantNew(t, n, call, wholes)
			}
			if l[:len(sizes)+1][len(sizes)] == nil || !marked[lost] || !bad[lost][0] || bad[lost][:2][1] || len(bad[lost]) != 1 {
				t.Error("a list was changed")
			}
		}
	}
}

// wantNew looks at two answers of one call: none changes with the other one, nor with the wholes, which are left alone.
func wantNew(t *testing.T, n int, call func() [][]byte, wholes [][]byte) {
	t.Helper()
	var before [][]byte
	for _, b := range wholes {
		before = append(before, bytes.Clone(b))
	}
	first, second := call(), call()
	var want [][]byte
	for _, b := range first {
		want = append(want, bytes.Clone(b))
	}
	if len(want) == 0 || !same(second, want) {
		t.Fatalf("call %d: no answer, or not the same twice", n)
	}
	for i := range first {
		wipe(first[i : i+1 : i+1])
		for k := i + 1; k < len(first); k++ {
			if !bytes.Equal(first[k], want[k]) {
				t.Errorf("call %d: lists %d and %d of one answer share memory", n, i, k)
			}
		}
	}
	wipe(first)
	if !same(second, want) || !same(wholes, before) {
		t.Errorf("call %d: an answer shares memory, or an argument was changed", n)
	}
	wipe(slices.Clone(wholes))
	if !same(second, want) {
		t.Errorf("call %d: the answer follows its arguments", n)
	}
	for i, b := range before {
		copy(wholes[i], b)
	}
}
