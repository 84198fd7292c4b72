package index_test

import (
	"fmt"
	"hash/crc32"
	"math"
	"slices"
	"strconv"
	"strings"
	"testing"
	"unsafe"

	"folio/api"
	"folio/index"
)

func loc(seg int64, at int, seq int64) api.Loc { return api.Loc{Seg: seg, At: at, Seq: seq} }

func wantBool(t *testing.T, what string, got, want bool) {
	t.Helper()
	if got != want {
		t.Errorf("%s: %v", what, got)
	}
}

func wantInt(t *testing.T, what string, got, want int) {
	t.Helper()
	if got != want {
		t.Errorf("%s: %d, not %d", what, got, want)
	}
}

func wantGet(t *testing.T, x *index.Index, key string, want api.Loc, there bool) {
	t.Helper()
	if got, ok := x.Get(key); got != want || ok != there {
		t.Errorf("Get(%q): %v, %v, not %v, %v", key, got, ok, want, there)
	}
}

// wantKeys asks for these keys, in this order, and no others.
func wantKeys(t *testing.T, x *index.Index, want ...string) {
	t.Helper()
	if got := x.Keys(); !slices.Equal(got, want) {
		t.Errorf("Keys: %q, not %q", got, want)
	}
	wantInt(t, "Len", x.Len(), len(want))
}

func TestP20_1Example(t *testing.T) {
	x := index.New()
	wantBool(t, "Put a 5", x.Put("a", loc(1, 0, 5)), true)
	wantBool(t, "Put a 5 again", x.Put("a", loc(2, 0, 5)), false)
	wantBool(t, "Put a 4", x.Put("a", loc(2, 0, 4)), false)
	wantGet(t, x, "a", loc(1, 0, 5), true)
	wantBool(t, "Put a 6", x.Put("a", loc(2, 3, 6)), true)
	wantBool(t, "Move a", x.Move("a", loc(2, 3, 6), loc(7, 0, 6)), true)
	wantBool(t, "Move a again", x.Move("a", loc(2, 3, 6), loc(7, 0, 6)), false)
	wantBool(t, "Move a to 7", x.Move("a", loc(7, 0, 6), loc(8, 0, 7)), false)
	wantGet(t, x, "a", loc(7, 0, 6), true)
	wantBool(t, "Del b 8", x.Del("b", 8), true)
	wantBool(t, "Del b 8 again", x.Del("b", 8), false)
	wantBool(t, "Put b 8", x.Put("b", loc(1, 1, 8)), false)
	wantGet(t, x, "b", api.Loc{}, false)
	wantKeys(t, x, "a")
}

func TestP20_1New(t *testing.T) {
	x := index.New()
	wantKeys(t, x)
	for _, key := range someKeys {
		wantGet(t, x, key, api.Loc{}, false)
		wantBool(t, "Move", x.Move(key, api.Loc{}, api.Loc{}), false)
	}
	for _, seg := range someSegs {
		wantInt(t, "Count", x.Count(seg), 0)
		wantInt(t, "Held", x.Held(seg), 0)
		wantBool(t, "Free", x.Free(seg), false)
	}
	x.Put("a", loc(1, 1, 1))
	x.Hold(1)
	y := index.New()
	wantKeys(t, y)
	wantInt(t, "Count of another one", y.Count(1), 0)
	wantInt(t, "Held of another one", y.Held(1), 0)
	wantBool(t, "Put to another one", y.Put("a", loc(2, 2, 1)), true)
	wantGet(t, x, "a", loc(1, 1, 1), true)
}

func TestP20_1Stripe(t *testing.T) {
	keys := append([]string{"123456789", strings.Repeat("x", 100), strings.Repeat("long", 50_000)}, someKeys...)
	for c := range 256 {
		keys = append(keys, string([]byte{byte(c)}), string([]byte{'k', byte(c), 0}))
	}
	count := [4]int{}
	for _, key := range keys {
		got := index.Stripe(key)
		if want := int(crc32.ChecksumIEEE([]byte(key)) % 4); got != want {
			t.Fatalf("Stripe(%.20q): %d, not %d", key, got, want)
		}
		count[got]++
	}
	if slices.Contains(count[:], 0) {
		t.Errorf("keys of each stripe: %v: the test is wrong", count)
	}
}

// A key of which nothing is remembered takes any number.
func TestP20_1FirstNumber(t *testing.T) {
	for _, seq := range someSeqs {
		for _, isPut := range []bool{true, false} {
			o := made()
			ok := false
			if isPut {
				ok = o.puts(t, "a", loc(4, 1, seq))
			} else {
				ok = o.dels(t, "a", seq)
			}
			if !ok {
				t.Fatal("the plain form refuses it: the test is wrong")
			}
			o.want(t, []string{"a", "b"}, []int64{4, 0})
		}
	}
}

// Each number behind each other one, as those of Put and Del, with and without a Move between them.
func TestP20_1NextNumber(t *testing.T) {
	for _, first := range someSeqs {
		for _, next := range someSeqs {
			for kinds := range 8 {
				o := made()
				o.puts(t, "other", loc(9, 9, next))
				if kinds&1 == 0 {
					o.puts(t, "a", loc(4, 1, first))
				} else {
					o.dels(t, "a", first)
				}
				if kinds&2 == 0 {
					o.moves(t, "a", loc(4, 1, first), loc(5, 2, first))
				}
				ok := false
				if kinds&4 == 0 {
					ok = o.puts(t, "a", loc(6, 3, next))
				} else {
					ok = o.dels(t, "a", next)
				}
				if ok != (next > first) {
					t.Fatal("the plain form is not the chapter's: the test is wrong")
				}
				o.want(t, []string{"a", "other"}, []int64{4, 5, 6, 9})
			}
		}
	}
}

// The number outlasts the location, and is the greatest one, not the last one that was tried.
func TestP20_1NumberStays(t *testing.T) {
	o := made()
	for _, seq := range []int64{5, 9, 3, 9, 8, 10} {
		o.puts(t, "a", loc(seq, 0, seq))
		o.want(t, []string{"a"}, someSegs)
	}
	for _, seq := range []int64{4, 10, 15, 12, 15, 16} {
		o.dels(t, "a", seq)
		o.want(t, []string{"a"}, someSegs)
	}
	for _, seq := range []int64{10, 11, 15, 16} {
		wantBool(t, "Put behind Del 16", o.puts(t, "a", loc(1, 0, seq)), false)
	}
	o.puts(t, "a", loc(1, 0, 17))
	wantBool(t, "Del behind Put 17", o.dels(t, "a", 16), false)
	wantBool(t, "Del behind Put 17", o.dels(t, "a", 17), false)
	o.want(t, []string{"a"}, someSegs)
}

func TestP20_1MoveFromAnother(t *testing.T) {
	is := loc(4, 2, 6)
	for _, from := range []api.Loc{
		{}, loc(5, 2, 6), loc(4, 3, 6), loc(4, 2, 7), loc(4, 2, 5), loc(2, 4, 6), loc(-4, 2, 6), loc(4, -2, 6), loc(4, 2, -6), loc(4+1<<32, 2, 6), loc(4, 2, 6+1<<32), loc(4, 2+1<<32, 6),
	} {
		for _, to := range []api.Loc{from, is, loc(8, 0, from.Seq), loc(8, 0, is.Seq)} {
			o := made()
			o.puts(t, "a", is)
			o.puts(t, "b", loc(7, 1, 6))
			wantBool(t, fmt.Sprint("Move from ", from), o.moves(t, "a", from, to), false)
			o.want(t, []string{"a", "b"}, []int64{0, 2, 4, 5, 7, 8})
		}
	}
}

func TestP20_1MoveTo(t *testing.T) {
	is := loc(4, 2, 6)
	for _, to := range []api.Loc{is, loc(4, 3, 6), loc(5, 2, 6), loc(0, 0, 6), loc(-1, -1, 6), loc(math.MaxInt64, math.MinInt, 6)} {
		o := made()
		o.puts(t, "a", is)
		o.puts(t, "b", is)
		wantBool(t, fmt.Sprint("Move to ", to), o.moves(t, "a", is, to), true)
		o.want(t, []string{"a", "b"}, append([]int64{4, 5}, someSegs...))
		wantBool(t, "Move back", o.moves(t, "a", to, is), true)
		o.want(t, []string{"a", "b"}, append([]int64{4, 5}, someSegs...))
	}
	for _, seq := range []int64{5, 7, 0, -6, math.MaxInt64, math.MinInt64} {
		o := made()
		o.puts(t, "a", is)
		wantBool(t, "Move to another number", o.moves(t, "a", is, loc(5, 2, seq)), false)
		wantBool(t, "Move to another number only", o.moves(t, "a", is, loc(4, 2, seq)), false)
		o.want(t, []string{"a"}, []int64{4, 5})
	}
}

// A key without a location can't be moved, not even from the zero one; one that has the zero location can.
func TestP20_1MoveOfNoLocation(t *testing.T) {
	o := made()
	o.puts(t, "a", loc(4, 2, 6))
	o.dels(t, "a", 7)
	o.dels(t, "b", 0)
	for _, key := range []string{"a", "b", "c"} {
		for _, from := range []api.Loc{{}, loc(4, 2, 6), loc(4, 2, 7), loc(0, 0, 7)} {
			wantBool(t, "Move of "+key, o.moves(t, key, from, loc(1, 1, from.Seq)), false)
		}
	}
	o.want(t, []string{"a", "b", "c"}, []int64{0, 1, 4})
	wantBool(t, "Put behind Move", o.puts(t, "c", api.Loc{}), true)
	o.want(t, []string{"a", "b", "c"}, []int64{0, 1, 4})
	wantBool(t, "Move from the zero location", o.moves(t, "c", api.Loc{}, loc(1, 1, 0)), true)
	o.want(t, []string{"a", "b", "c"}, []int64{0, 1, 4})
}

func TestP20_1Keys(t *testing.T) {
	o := made()
	for k, key := range []string{"b", "a\x00", "é", "", "aa", "B", "\xff\xff", "a", "10", "9", "\x00", "\xff", "z", "e\u0301", "\U0001f600", strings.Repeat("a", 5000)} {
		o.puts(t, key, loc(1, k, 1))
	}
	wantKeys(t, o.x, "", "\x00", "10", "9", "B", "a", "a\x00", "aa", strings.Repeat("a", 5000), "b", "e\u0301", "z", "é", "\U0001f600", "\xff", "\xff\xff")
	o.dels(t, "B", 2)
	o.dels(t, "", 2)
	o.dels(t, "q", 2)
	o.dels(t, "\xff", 1)
	wantKeys(t, o.x, "\x00", "10", "9", "a", "a\x00", "aa", strings.Repeat("a", 5000), "b", "e\u0301", "z", "é", "\U0001f600", "\xff", "\xff\xff")
	o.puts(t, "B", loc(1, 1, 3))
	wantKeys(t, o.x, "\x00", "10", "9", "B", "a", "a\x00", "aa", strings.Repeat("a", 5000), "b", "e\u0301", "z", "é", "\U0001f600", "\xff", "\xff\xff")
}

func TestP20_1Count(t *testing.T) {
	x := index.New()
	want := func(counts ...int) {
		t.Helper()
		for seg, n := range counts {
			wantInt(t, "Count "+strconv.Itoa(seg), x.Count(int64(seg)), n)
		}
	}
	x.Put("a", loc(1, 0, 1))
	x.Put("b", loc(1, 1, 2))
	x.Put("c", loc(2, 0, 3))
	want(0, 2, 1, 0)
	x.Put("a", loc(1, 2, 4))
	want(0, 2, 1, 0)
	x.Put("a", loc(2, 1, 5))
	want(0, 1, 2, 0)
	x.Put("b", loc(3, 1, 2))
	want(0, 1, 2, 0)
	x.Move("b", loc(1, 1, 2), loc(3, 0, 2))
	want(0, 0, 2, 1)
	x.Del("c", 6)
	x.Del("c", 7)
	x.Del("q", 7)
	want(0, 0, 1, 1)
	x.Put("c", loc(0, 0, 8))
	want(1, 0, 1, 1)
	wantInt(t, "Count of a negative one", x.Count(-1), 0)
}

func TestP20_1HoldExample(t *testing.T) {
	x := index.New()
	x.Hold(4)
	x.Hold(4)
	wantInt(t, "Held(4)", x.Held(4), 2)
	for _, want := range []bool{false, true, false} {
		wantBool(t, "Free(4)", x.Free(4), want)
	}
	wantInt(t, "Held(4)", x.Held(4), 0)
}

// A Free of a segment without readers takes no later reader away.
func TestP20_1FreeOfNone(t *testing.T) {
	o := made()
	for _, seg := range someSegs {
		wantBool(t, "Free of none", o.frees(t, seg), false)
		wantBool(t, "Free of none", o.frees(t, seg), false)
		o.want(t, nil, someSegs)
	}
	for _, seg := range someSegs {
		o.holds(seg)
		o.want(t, nil, someSegs)
	}
	for _, seg := range someSegs {
		wantBool(t, "Free of one", o.frees(t, seg), true)
		wantBool(t, "Free of none", o.frees(t, seg), false)
		o.want(t, nil, someSegs)
	}
}

// Readers and locations of a segment have nothing to do with each other.
func TestP20_1HoldApart(t *testing.T) {
	o := made()
	o.holds(3)
	o.want(t, someKeys, someSegs)
	o.puts(t, "a", loc(3, 0, 1))
	o.puts(t, "b", loc(2, 0, 1))
	o.want(t, someKeys, someSegs)
	wantBool(t, "Free of a segment that has locations only", o.frees(t, 2), false)
	o.dels(t, "a", 2)
	o.want(t, someKeys, someSegs)
	wantBool(t, "Free", o.frees(t, 3), true)
	o.want(t, someKeys, someSegs)
}

func TestP20_1Nil(t *testing.T) {
	var x *index.Index
	for range 2 {
		x.Hold(1)
		wantInt(t, "Held", x.Held(1), 0)
		wantBool(t, "Free", x.Free(1), false)
		wantBool(t, "Put", x.Put("a", loc(1, 1, 1)), false)
		wantBool(t, "Del", x.Del("a", 1), false)
		wantBool(t, "Move", x.Move("a", loc(1, 1, 1), loc(2, 1, 1)), false)
		wantBool(t, "Move of the zero location", x.Move("", api.Loc{}, api.Loc{}), false)
		wantGet(t, x, "a", api.Loc{}, false)
		wantInt(t, "Count", x.Count(1), 0)
		wantKeys(t, x)
	}
}

// No call of a zero Index panics, whichever is the first one.
func TestP20_1Zero(t *testing.T) {
	for k, first := range []func(o *both){
		func(o *both) { o.puts(t, "a", loc(1, 1, 1)) },
		func(o *both) { o.dels(t, "a", 1) },
		func(o *both) { o.moves(t, "a", api.Loc{}, api.Loc{}) },
		func(o *both) { o.holds(1) },
		func(o *both) { o.frees(t, 1) },
		func(o *both) {},
	} {
		o := &both{x: &index.Index{}}
		first(o)
		o.want(t, someKeys, someSegs)
		o.puts(t, "b", loc(int64(k), 0, 5))
		o.holds(1)
		o.want(t, someKeys, someSegs)
	}
}

func TestP20_1SharesNothing(t *testing.T) {
	o := made()
	for k, key := range []string{"c", "a", "b"} {
		o.puts(t, key, loc(1, k, 1))
	}
	l, other := o.x.Keys(), o.x.Keys()
	l = l[:cap(l)]
	for k := range l {
		l[k] = "spoilt"
	}
	if !slices.Equal(other, []string{"a", "b", "c"}) {
		t.Errorf("Keys: another answer has become %q", other)
	}
	o.want(t, someKeys, someSegs)
}

func TestP20_1KeepsNoLongText(t *testing.T) {
	text := strings.Repeat("0123456789", 1000)
	x := index.New()
	kept := func(what string) {
		t.Helper()
		if l := x.Keys(); len(l) != 1 || unsafe.StringData(l[0]) == unsafe.StringData(text) {
			t.Errorf("%s: %d keys, or the text is kept that it was given", what, len(l))
		}
	}
	x.Put(text[:3], loc(1, 0, 1))
	kept("Put")
	x.Put(text[:3], loc(1, 1, 2))
	kept("another Put")
	x.Move(text[:3], loc(1, 1, 2), loc(2, 1, 2))
	kept("Move")
	x.Del(text[:3], 3)
	x.Put("012", loc(1, 1, 4))
	kept("Put behind Del")
}

// Many keys cost no more than what they are: none of the calls but Keys goes through all of them.
func TestP20_1ManyKeys(t *testing.T) {
	const many = 200_000
	x := index.New()
	name := func(k int) string { return fmt.Sprintf("%07d", k) }
	for k := range many {
		wantBool(t, "Put", x.Put(name(k), loc(int64(k%7), k, int64(k))), true)
	}
	for k := range many {
		seq := int64(k)
		switch {
		case k%4 == 0:
			wantBool(t, "Del", x.Del(name(k), seq+1), true)
		case k%4 == 1:
			wantBool(t, "Move", x.Move(name(k), loc(int64(k%7), k, seq), loc(9, 0, seq)), true)
		}
		if x.Count(9) != (k+3)/4 || x.Len() != many-k/4-1 {
			t.Fatalf("%d keys, %d of them in segment 9, behind key %d", x.Len(), x.Count(9), k)
		}
	}
	l := x.Keys()
	if len(l) != many/4*3 || l[0] != name(1) || l[len(l)-1] != name(many-1) || !slices.IsSorted(l) {
		t.Errorf("Keys: %d of them, or in another order", len(l))
	}
}
