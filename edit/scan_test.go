package edit_test

import (
	"bytes"
	"encoding/binary"
	"math/rand"
	"slices"
	"testing"

	"folio/api"
	"folio/edit"
)

// three gives edits whose encodings have different sizes.
func three() []api.Edit {
	return []api.Edit{{Next: 2}, full(), {Dels: []int64{300}, Drops: []int64{1, 2}}}
}

func TestP18_1ScanExamples(t *testing.T) {
	l := three()
	log := codes(t, l)
	wantScan(t, log, l, len(log), true)
	wantScan(t, log[:len(log)-1], l[:2], len(codes(t, l[:2])), true)
}

func TestP18_1ScanOfNothing(t *testing.T) {
	wantScan(t, nil, nil, 0, true)
	wantScan(t, []byte{}, nil, 0, true)
	wantScan(t, make([]byte, 11), nil, 0, true)
	wantScan(t, make([]byte, 12), nil, 0, false)
	wantScan(t, code(t, api.Edit{}), []api.Edit{{}}, len(code(t, api.Edit{})), true)
}

// Each field comes back in its own place: each is changed by itself.
func TestP18_1ScanOfEachField(t *testing.T) {
	seen := map[string]bool{string(code(t, full())): true}
	for k, turn := range []func(e *api.Edit){
		func(e *api.Edit) { e.Next++ },
		func(e *api.Edit) { e.Seq++ },
		func(e *api.Edit) { e.Next, e.Seq = e.Seq, e.Next },
		func(e *api.Edit) { e.Adds[0].Num++ },
		func(e *api.Edit) { e.Adds[0].Sealed = false },
		func(e *api.Edit) { e.Adds[1].Sealed = true },
		func(e *api.Edit) { e.Adds[1].Group++ },
		func(e *api.Edit) { e.Adds[1].Member++ },
		func(e *api.Edit) { e.Adds[1].Size++ },
		func(e *api.Edit) { e.Adds[1].Sum++ },
		func(e *api.Edit) { e.Adds[0], e.Adds[1] = e.Adds[1], e.Adds[0] },
		func(e *api.Edit) { e.Adds = nil },
		func(e *api.Edit) { e.Adds = e.Adds[1:] },
		func(e *api.Edit) { e.Dels[0]++ },
		func(e *api.Edit) { slices.Reverse(e.Dels) },
		func(e *api.Edit) { e.Dels = nil },
		func(e *api.Edit) { e.Dels, e.Drops = e.Drops, e.Dels },
		func(e *api.Edit) { e.Pars[0].Group++ },
		func(e *api.Edit) { e.Pars[0].Nums[1]++ },
		func(e *api.Edit) { e.Pars[0].Sizes[1]++ },
		func(e *api.Edit) { slices.Reverse(e.Pars[0].Nums) },
		func(e *api.Edit) { slices.Reverse(e.Pars[0].Sizes) },
		func(e *api.Edit) { e.Pars[0].Nums, e.Pars[0].Sizes = e.Pars[0].Nums[:2], e.Pars[0].Sizes[:2] },
		func(e *api.Edit) { e.Pars[0].Size++ },
		func(e *api.Edit) { e.Pars[0].Sum++ },
		func(e *api.Edit) { slices.Reverse(e.Pars) },
		func(e *api.Edit) { e.Pars = nil },
		func(e *api.Edit) { e.Drops[1]++ },
		func(e *api.Edit) { slices.Reverse(e.Drops) },
		func(e *api.Edit) { e.Drops = nil },
	} {
		e := full()
		turn(&e)
		wantCheck(t, e, api.OK)
		if b := string(code(t, e)); seen[b] {
			t.Errorf("change %d: an encoding that another edit has", k)
		} else {
			seen[b] = true
		}
	}
}

func TestP18_1ScanOfEachBeginning(t *testing.T) {
	l := three()
	log := codes(t, l)
	for n := range len(log) + 1 {
		k := 0
		for k < len(l) && len(codes(t, l[:k+1])) <= n {
			k++
		}
		wantScan(t, log[:n], l[:k], len(codes(t, l[:k])), true) // the rest lies in the spare capacity
		wantScan(t, bytes.Clone(log[:n]), l[:k], len(codes(t, l[:k])), true)
	}
}

func TestP18_1ScanOfChangedBytes(t *testing.T) {
	l := three()
	log := codes(t, l)
	k := 0
	for at := range log {
		if at == len(codes(t, l[:k+1])) {
			k++
		}
		size := len(codes(t, l[:k]))
		for x := 1; x < 256; x++ {
			changed := bytes.Clone(log)
			changed[at] ^= byte(x)
			wantScan(t, changed, l[:k], size, false)
		}
	}
}

// A log may hold the same edit twice, and counters in any order.
func TestP18_1ScanKeepsTheOrder(t *testing.T) {
	l := slices.Concat(three(), three(), []api.Edit{{}, {Next: 9}, {}, {Next: 3}, {Next: 9}})
	log := codes(t, l)
	wantScan(t, log, l, len(log), true)
}

func TestP18_1ScanOfALongLog(t *testing.T) {
	l := anyEdits(rand.New(rand.NewSource(2)), 2_000)
	log := codes(t, l)
	wantScan(t, log, l, len(log), true)
	wantScan(t, append(bytes.Clone(log), make([]byte, 11)...), l, len(log), true)
	wantScan(t, append(bytes.Clone(log), make([]byte, 12)...), l, len(log), false)
}

// A seal of what is no encoding ends the log, wherever it comes, and whatever comes behind it.
func TestP18_1ScanEndsAtTheFirstFault(t *testing.T) {
	l := three()
	log := codes(t, l)
	whole := body(t, full())
	for n := range whole {
		refused := plainSeal(whole[:n])
		wantScan(t, refused, nil, 0, false)
		for k := range len(l) + 1 {
			before := codes(t, l[:k])
			for _, rest := range [][]byte{nil, {1}, make([]byte, 11), make([]byte, 12), log, log[:len(log)-1], refused} {
				wantScan(t, slices.Concat(before, refused, rest), l[:k], len(before), false)
			}
		}
	}
}

func TestP18_1ScanOfAHeaderBehind(t *testing.T) {
	l := three()
	log := codes(t, l)
	cut := plainSeal(make([]byte, 50))[:40]
	wantScan(t, slices.Concat(log, cut), l, len(log), true)
	wantScan(t, cut, nil, 0, true)
	cut[4] ^= 1
	wantScan(t, slices.Concat(log, cut), l, len(log), false)
}

func TestP18_1ScanOfOtherBodies(t *testing.T) {
	for _, e := range []api.Edit{{}, {Next: mostNum, Seq: mostNum}, full(), {Adds: []api.Seg{seg(1)}}, {Pars: []api.Par{par(1, 1)}}} {
		text := body(t, e)
		for at := range text {
			wantJust(t, text[:at])
			wantJust(t, text[at:])
			wantJust(t, slices.Delete(bytes.Clone(text), at, at+1))
			for x := range 256 {
				changed := bytes.Clone(text)
				changed[at] = byte(x)
				wantJust(t, changed)
				wantJust(t, slices.Insert(bytes.Clone(text), at, byte(x)))
				wantJust(t, append(bytes.Clone(text), text[at], byte(x)))
			}
		}
		for x := range 256 {
			wantJust(t, append(bytes.Clone(text), byte(x)))
		}
		wantJust(t, slices.Concat(text, text))
		wantJust(t, plainSeal(text))
	}
}

// Great numbers in the place of each byte: cut down to fewer bits, or taken for negative ones, they would be other numbers.
func TestP18_1ScanOfGreatNumbers(t *testing.T) {
	for _, e := range []api.Edit{{}, full(), {Adds: []api.Seg{{Num: 1, Sealed: true, Sum: 1}}}, {Pars: []api.Par{par(1, 1)}}} {
		text := body(t, e)
		for at, was := range text {
			for _, n := range []uint64{0, 60, 61, 1<<50 + 1, 1<<63 - 1, 1 << 63, 1<<64 - 1} {
				wantJust(t, slices.Concat(text[:at], binary.AppendUvarint(nil, n), text[at+1:]))
			}
			for bits := range 64 {
				n := 1<<bits + uint64(was)
				wantJust(t, slices.Concat(text[:at], binary.AppendUvarint(nil, n), text[at+1:]))
			}
		}
	}
}

// wantJustNear asks for the answers to text with a piece of up to 8 bytes taken out, or standing twice.
func wantJustNear(t *testing.T, text []byte) {
	t.Helper()
	for end := range len(text) + 1 {
		for from := max(0, end-8); from < end; from++ {
			wantJust(t, slices.Concat(text[:from], text[end:]))
			wantJust(t, slices.Concat(text[:end], text[from:]))
		}
	}
}

// One count is one more or one less than it should be, with what belongs to it put in or taken out: such bodies read well,
// but tell an edit that is not valid.
func TestP18_1ScanOfOtherCounts(t *testing.T) {
	p := api.Par{Group: 7, Nums: []int64{5, 2, 8}, Sizes: []int{9, 4, 6}, Size: 11, Sum: 12}
	one := api.Par{Group: 7, Nums: []int64{5}, Sizes: []int{9}, Size: 11, Sum: 12}
	for _, x := range []struct {
		e     api.Edit
		count byte
	}{
		{api.Edit{Adds: slices.Repeat([]api.Seg{{Num: 7, Sealed: true, Group: 5, Member: 2, Size: 9, Sum: 12}}, 60)}, 60},
		{api.Edit{Dels: slices.Repeat([]int64{7}, 60)}, 60},
		{api.Edit{Pars: slices.Repeat([]api.Par{one}, 60)}, 60},
		{api.Edit{Drops: slices.Repeat([]int64{7}, 60)}, 60},
		{api.Edit{Pars: []api.Par{p}}, 3},
		{api.Edit{Pars: []api.Par{one}}, 1},
		{api.Edit{Pars: []api.Par{one, one}}, 1},
	} {
		text := body(t, x.e)
		for at, was := range text {
			if was != x.count {
				continue
			}
			for _, is := range []byte{was - 1, was, was + 1} {
				changed := bytes.Clone(text)
				changed[at] = is
				wantJustNear(t, changed)
			}
		}
	}
}

// Bodies of a few bytes, from such as tell counts and numbers.
func TestP18_1ScanOfEachShortBody(t *testing.T) {
	letters := []byte{0, 1, 2, 0x7f, 0x80, 0x81, 0xff}
	var tryAll func(text []byte, left int)
	tryAll = func(text []byte, left int) {
		wantJust(t, text)
		if left == 0 {
			return
		}
		for _, x := range letters {
			tryAll(append(bytes.Clone(text), x), left-1)
		}
	}
	tryAll(nil, 7)
}

func TestP18_1ScanOfAnyBodies(t *testing.T) {
	r := rand.New(rand.NewSource(3))
	for range 50_000 {
		text := body(t, anyEdit(r))
		for range 1 + r.Intn(3) {
			at := r.Intn(len(text))
			switch r.Intn(4) {
			case 0:
				text[at] ^= 1 << r.Intn(8)
			case 1:
				text[at] = byte(r.Intn(256))
			case 2:
				text = slices.Insert(text, at, byte(r.Intn(256)))
			case 3:
				other := body(t, anyEdit(r))
				text = slices.Concat(text[:at], other[r.Intn(len(other)):], text[:1])
			}
		}
		wantJust(t, text)
	}
}

// spoil overwrites a list and its spare capacity.
func spoil[T any](l []T, x T) {
	l = l[:cap(l)]
	for k := range l {
		l[k] = x
	}
}

func spoilEdit(e api.Edit) {
	for _, p := range e.Pars {
		spoil(p.Nums, 77)
		spoil(p.Sizes, 77)
	}
	spoil(e.Adds, seg(77))
	spoil(e.Dels, 77)
	spoil(e.Pars, par(77, 77))
	spoil(e.Drops, 77)
}

// The answers are new memory: P0.3.
func TestP18_1SharesNothing(t *testing.T) {
	l := slices.Concat(three(), three(), anyEdits(rand.New(rand.NewSource(4)), 50))
	log := codes(t, l)
	found, _, _ := edit.Scan(log)
	again, _, _ := edit.Scan(log)
	spoil(log, 0xff)
	for k := range found {
		if !same(found[k], l[k]) {
			t.Fatalf("edit %d shares memory with the log, or with another edit", k)
		}
		spoilEdit(found[k])
	}
	spoil(found, api.Edit{})
	if !slices.EqualFunc(again, l, same) {
		t.Error("the edits of two calls share memory")
	}
	one, two := code(t, full()), code(t, full())
	spoil(one, 0xff)
	if !bytes.Equal(two, code(t, full())) || bytes.Equal(one, two) {
		t.Error("the encodings of one edit share memory")
	}
}

// No list of a found edit is another list of it.
func TestP18_1SharesNothingWithinAnEdit(t *testing.T) {
	want := full()
	for k, turn := range []func(e *api.Edit){
		func(e *api.Edit) { spoil(e.Adds, seg(77)); e.Adds = want.Adds },
		func(e *api.Edit) { spoil(e.Dels, 77); e.Dels = want.Dels },
		func(e *api.Edit) { spoil(e.Drops, 77); e.Drops = want.Drops },
		func(e *api.Edit) { spoil(e.Pars[0].Nums, 77); e.Pars[0].Nums = want.Pars[0].Nums },
		func(e *api.Edit) { spoil(e.Pars[1].Nums, 77); e.Pars[1].Nums = want.Pars[1].Nums },
		func(e *api.Edit) { spoil(e.Pars[0].Sizes, 77); e.Pars[0].Sizes = want.Pars[0].Sizes },
		func(e *api.Edit) { spoil(e.Pars[1].Sizes, 77); e.Pars[1].Sizes = want.Pars[1].Sizes },
		func(e *api.Edit) { spoil(e.Pars, par(77, 77)); e.Pars = want.Pars },
	} {
		found, _, _ := edit.Scan(code(t, full()))
		if len(found) != 1 {
			t.Fatalf("%d edits", len(found))
		}
		turn(&found[0])
		if !same(found[0], want) {
			t.Errorf("list %d shares memory with another one", k)
		}
	}
}

// The arguments are left alone, with what lies behind them: P0.3.
func TestP18_1ChangesNothing(t *testing.T) {
	whole := full()
	e := full()
	e.Adds, e.Dels, e.Drops = e.Adds[:1], e.Dels[:1], e.Drops[:1]
	e.Pars[0].Nums, e.Pars[0].Sizes = e.Pars[0].Nums[:2], e.Pars[0].Sizes[:2]
	edit.Check(e)
	b := code(t, e)
	e.Adds, e.Dels, e.Drops = e.Adds[:3], e.Dels[:3], e.Drops[:2]
	e.Pars[0].Nums, e.Pars[0].Sizes = e.Pars[0].Nums[:3], e.Pars[0].Sizes[:3]
	if !same(e, whole) {
		t.Errorf("the edit was changed, or what lies behind its lists: %v", e)
	}
	was := bytes.Clone(b)
	spoilEdit(e)
	if !bytes.Equal(b, was) {
		t.Error("the encoding shares memory with its edit")
	}
	log := codes(t, three())
	was = bytes.Clone(log)
	for n := range len(log) + 1 {
		edit.Scan(log[:n])
	}
	if !bytes.Equal(log, was) {
		t.Error("Scan changed the log, or what lies behind it")
	}
}
