package edit_test

import (
	"bytes"
	"encoding/binary"
	"hash/crc32"
	"math/rand"
	"slices"
	"testing"

	"folio/api"
	"folio/edit"
)

// Held apart from the constants of api, as the chapter tells them.
const (
	most     = 60
	mostNum  = 1 << 50
	mostSize = 1 << 22
	mostSum  = 1<<32 - 1
)

func seg(num int64) api.Seg { return api.Seg{Num: num} }

func par(group int64, nums ...int64) api.Par {
	return api.Par{Group: group, Nums: nums, Sizes: make([]int, len(nums))}
}

// full gives an edit in which each field has a value of its own, made anew for each call.
func full() api.Edit {
	return api.Edit{
		Next: 90,
		Seq:  300,
		Adds: []api.Seg{
			{Num: 5, Sealed: true, Group: 70, Member: 3, Size: 400, Sum: mostSum},
			{Num: 6, Member: 1, Size: 2, Sum: 7},
			{Num: mostNum, Sealed: true, Group: mostNum, Member: 2, Size: mostSize},
		},
		Dels:  []int64{11, mostNum, 12},
		Pars:  []api.Par{{Group: 80, Nums: []int64{5, 2, mostNum}, Sizes: []int{1, 0, mostSize}, Size: 4, Sum: 500}, {Group: 81, Nums: []int64{9}, Sizes: []int{3}, Size: mostSize, Sum: mostSum}},
		Drops: []int64{21, 22},
	}
}

func inRange(n int64, least, greatest int64) bool { return n >= least && n <= greatest }

func plainSegHolds(s api.Seg) bool {
	return inRange(s.Num, 1, mostNum) && inRange(s.Group, 0, mostNum) && inRange(int64(s.Member), 0, 3) && inRange(int64(s.Size), 0, mostSize)
}

func plainParHolds(p api.Par) bool {
	distinct := map[int64]bool{}
	for _, n := range p.Nums {
		if !inRange(n, 1, mostNum) {
			return false
		}
		distinct[n] = true
	}
	for _, size := range append([]int{p.Size}, p.Sizes...) {
		if !inRange(int64(size), 0, mostSize) {
			return false
		}
	}
	count := len(p.Nums)
	return inRange(p.Group, 1, mostNum) && inRange(int64(count), 1, 3) && len(distinct) == count && len(p.Sizes) == count
}

// plainCheck is what Check should answer.
func plainCheck(e api.Edit) api.Errno {
	holds := inRange(e.Next, 0, mostNum) && inRange(e.Seq, 0, mostNum)
	for _, count := range []int{len(e.Adds), len(e.Dels), len(e.Pars), len(e.Drops)} {
		holds = holds && count <= most
	}
	for _, s := range e.Adds {
		holds = holds && plainSegHolds(s)
	}
	for _, p := range e.Pars {
		holds = holds && plainParHolds(p)
	}
	for _, n := range slices.Concat(e.Dels, e.Drops) {
		holds = holds && inRange(n, 1, mostNum)
	}
	if !holds {
		return api.ErrForm
	}
	return api.OK
}

func plainSeal(b []byte) []byte {
	head := binary.LittleEndian.AppendUint32(nil, uint32(len(b)))
	head = binary.LittleEndian.AppendUint32(head, crc32.ChecksumIEEE(head))
	head = binary.LittleEndian.AppendUint32(head, crc32.ChecksumIEEE(b))
	return append(head, b...)
}

// same holds two edits against each other; nil and empty lists are the same.
func same(x, y api.Edit) bool {
	return x.Next == y.Next && x.Seq == y.Seq && slices.Equal(x.Adds, y.Adds) && slices.Equal(x.Dels, y.Dels) &&
		slices.EqualFunc(x.Pars, y.Pars, samePar) && slices.Equal(x.Drops, y.Drops)
}

func samePar(x, y api.Par) bool {
	return x.Group == y.Group && slices.Equal(x.Nums, y.Nums) && slices.Equal(x.Sizes, y.Sizes) && x.Size == y.Size && x.Sum == y.Sum
}

// code gives the encoding of e, which must have one.
func code(t *testing.T, e api.Edit) []byte {
	t.Helper()
	b, err := edit.Encode(e)
	if err != api.OK || len(b) < 12 || !bytes.Equal(b, plainSeal(b[12:])) {
		t.Fatalf("Encode of %v: %x, %d", e, b, err)
	}
	return b
}

// body gives what the encoding of e seals.
func body(t *testing.T, e api.Edit) []byte {
	t.Helper()
	return code(t, e)[12:]
}

func codes(t *testing.T, l []api.Edit) []byte {
	t.Helper()
	var log []byte
	for _, e := range l {
		log = append(log, code(t, e)...)
	}
	return log
}

// wantCheck asks Check and Encode for the answer to e, and Scan for e itself where it is valid.
func wantCheck(t *testing.T, e api.Edit, want api.Errno) {
	t.Helper()
	if got := edit.Check(e); got != want {
		t.Fatalf("Check of %v: %d, not %d", e, got, want)
	}
	if want == api.OK {
		b := code(t, e)
		wantScan(t, b, []api.Edit{e}, len(b), true)
		return
	}
	if b, err := edit.Encode(e); b != nil || err != want {
		t.Fatalf("Encode of %v: %x, %d; not nil, %d", e, b, err, want)
	}
}

func wantScan(t *testing.T, b []byte, want []api.Edit, size int, cut bool) {
	t.Helper()
	found, end, ok := edit.Scan(b)
	if !slices.EqualFunc(found, want, same) || end != size || ok != cut {
		t.Fatalf("Scan of %d bytes: %v, %d, %v; not %v, %d, %v", len(b), found, end, ok, want, size, cut)
	}
}

// wantJust asks whether Scan takes text, sealed, for no edit, or for a valid one whose encoding seals just that. The format
// is the program's business: so this is all that can be said of any bytes.
func wantJust(t *testing.T, text []byte) {
	t.Helper()
	b := plainSeal(text)
	found, size, ok := edit.Scan(b)
	if !ok {
		if len(found) != 0 || size != 0 {
			t.Fatalf("Scan of %x, sealed, which it refuses: %v, %d", text, found, size)
		}
		return
	}
	if len(found) != 1 || size != len(b) || plainCheck(found[0]) != api.OK || !bytes.Equal(code(t, found[0]), b) {
		t.Fatalf("Scan of %x, sealed: %v, %d", text, found, size)
	}
}

// upTo gives a number from least to greatest, often one of these two.
func upTo(r *rand.Rand, least, greatest int64) int64 {
	switch r.Intn(4) {
	case 0:
		return least
	case 1:
		return greatest
	case 2:
		return least + r.Int63n(min(greatest-least+1, 200))
	}
	return least + r.Int63n(greatest-least+1)
}

func anyList[T any](r *rand.Rand, one func() T) []T {
	var l []T
	for range r.Intn(1 + []int{0, 1, 3, most}[r.Intn(4)]) {
		l = append(l, one())
	}
	return l
}

// anyEdit gives a valid one.
func anyEdit(r *rand.Rand) api.Edit {
	num := func() int64 { return upTo(r, 1, mostNum) }
	size := func() int { return int(upTo(r, 0, mostSize)) }
	sum := func() uint32 { return uint32(upTo(r, 0, mostSum)) }
	added := func() api.Seg {
		return api.Seg{Num: num(), Sealed: r.Intn(2) == 0, Group: upTo(r, 0, mostNum), Member: r.Intn(4), Size: size(), Sum: sum()}
	}
	group := func() api.Par {
		p := api.Par{Group: num(), Size: size(), Sum: sum()}
		for range 1 + r.Intn(3) {
			n := num()
			if !slices.Contains(p.Nums, n) {
				p.Nums, p.Sizes = append(p.Nums, n), append(p.Sizes, size())
			}
		}
		return p
	}
	return api.Edit{Next: upTo(r, 0, mostNum), Seq: upTo(r, 0, mostNum), Adds: anyList(r, added), Dels: anyList(r, num), Pars: anyList(r, group), Drops: anyList(r, num)}
}

func anyEdits(r *rand.Rand, count int) []api.Edit {
	l := make([]api.Edit, count)
	for k := range l {
		l[k] = anyEdit(r)
	}
	return l
}
