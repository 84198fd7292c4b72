package index_test

import (
	"fmt"
	"math"
	"math/rand"
	"slices"
	"testing"

	"folio/api"
	"folio/index"
)

// news is a Put or Del that succeeded. A Move that succeeded changes the location of the news that it moves.
type news struct {
	key  string
	seq  int64
	here bool
	loc  api.Loc
}

// plain is what an index should be: all that ever succeeded, in order, and each reader that there is.
type plain struct {
	all  []news
	held []int64
}

// last gives the place of the newest news of a key, -1 where there is none.
func (p *plain) last(key string) int {
	at := -1
	for k, one := range p.all {
		if one.key == key {
			at = k
		}
	}
	return at
}

func (p *plain) isNew(key string, seq int64) bool {
	return !slices.ContainsFunc(p.all, func(one news) bool { return one.key == key && one.seq >= seq })
}

func (p *plain) get(key string) (api.Loc, bool) {
	if at := p.last(key); at >= 0 && p.all[at].here {
		return p.all[at].loc, true
	}
	return api.Loc{}, false
}

func (p *plain) put(key string, l api.Loc) bool {
	ok := p.isNew(key, l.Seq)
	if ok {
		p.all = append(p.all, news{key: key, seq: l.Seq, here: true, loc: l})
	}
	return ok
}

func (p *plain) del(key string, seq int64) bool {
	ok := p.isNew(key, seq)
	if ok {
		p.all = append(p.all, news{key: key, seq: seq})
	}
	return ok
}

func (p *plain) move(key string, from, to api.Loc) bool {
	at := p.last(key)
	if at < 0 || !p.all[at].here {
		return false
	}
	is := p.all[at].loc
	ok := is.Seg == from.Seg && is.At == from.At && is.Seq == from.Seq && from.Seq == to.Seq
	if ok {
		p.all[at].loc = to
	}
	return ok
}

func (p *plain) hold(seg int64) { p.held = append(p.held, seg) }

func (p *plain) free(seg int64) bool {
	at := slices.Index(p.held, seg)
	if at < 0 {
		return false
	}
	p.held = slices.Delete(p.held, at, at+1)
	return !slices.Contains(p.held, seg)
}

// keys gives those that have a location, ascending.
func (p *plain) keys() []string {
	var l []string
	for k, one := range p.all {
		if one.here && p.last(one.key) == k {
			l = append(l, one.key)
		}
	}
	slices.Sort(l)
	return l
}

func (p *plain) count(seg int64) int {
	n := 0
	for _, key := range p.keys() {
		if l, _ := p.get(key); l.Seg == seg {
			n++
		}
	}
	return n
}

func (p *plain) readers(seg int64) int {
	n := 0
	for _, one := range p.held {
		if one == seg {
			n++
		}
	}
	return n
}

// both is an index and what it should be.
type both struct {
	x *index.Index
	p plain
}

func made() *both { return &both{x: index.New()} }

func (o *both) puts(t *testing.T, key string, l api.Loc) bool {
	t.Helper()
	want := o.p.put(key, l)
	wantBool(t, fmt.Sprintf("Put(%q, %v)", key, l), o.x.Put(key, l), want)
	return want
}

func (o *both) dels(t *testing.T, key string, seq int64) bool {
	t.Helper()
	want := o.p.del(key, seq)
	wantBool(t, fmt.Sprintf("Del(%q, %d)", key, seq), o.x.Del(key, seq), want)
	return want
}

func (o *both) moves(t *testing.T, key string, from, to api.Loc) bool {
	t.Helper()
	want := o.p.move(key, from, to)
	wantBool(t, fmt.Sprintf("Move(%q, %v, %v)", key, from, to), o.x.Move(key, from, to), want)
	return want
}

func (o *both) holds(seg int64) {
	o.x.Hold(seg)
	o.p.hold(seg)
}

func (o *both) frees(t *testing.T, seg int64) bool {
	t.Helper()
	want := o.p.free(seg)
	wantBool(t, fmt.Sprintf("Free(%d)", seg), o.x.Free(seg), want)
	return want
}

// want looks at all that can be seen of these keys and segments, and at what there are of others.
func (o *both) want(t *testing.T, keys []string, segs []int64) {
	t.Helper()
	for _, key := range keys {
		want, there := o.p.get(key)
		wantGet(t, o.x, key, want, there)
	}
	wantKeys(t, o.x, o.p.keys()...)
	for _, seg := range segs {
		wantInt(t, fmt.Sprintf("Count(%d)", seg), o.x.Count(seg), o.p.count(seg))
		wantInt(t, fmt.Sprintf("Held(%d)", seg), o.x.Held(seg), o.p.readers(seg))
	}
}

var (
	someKeys = []string{"", "a", "b", "ab", "\x00", "é", "\xff"}
	someSegs = []int64{1, 2, 3, 0, -1, math.MaxInt64, math.MinInt64}
	someSeqs = []int64{math.MinInt64, math.MinInt64 + 1, -2, -1, 0, 1, 2, 7, 1<<50 - 1, 1 << 50, 1<<50 + 1, math.MaxInt64 - 1, math.MaxInt64}
)

// anyLoc gives a location whose number is most often near to last, and never so great that hardly any comes behind it.
func anyLoc(r *rand.Rand, last int64) api.Loc {
	l := api.Loc{Seg: someSegs[r.Intn(len(someSegs))], At: r.Intn(4) - 1, Seq: last + int64(r.Intn(5)) - 2}
	if r.Intn(40) == 0 {
		l.Seq = someSeqs[r.Intn(len(someSeqs)-2)]
	}
	return l
}

// from gives a location that a Move may begin with: that of the key, or another one.
func (o *both) from(r *rand.Rand, key string) api.Loc {
	l, _ := o.p.get(key)
	switch r.Intn(12) {
	case 0:
		l.Seg++
	case 1:
		l.At++
	case 2:
		l.Seq++
	case 3:
		return anyLoc(r, l.Seq)
	}
	return l
}

func (o *both) anyCall(t *testing.T, r *rand.Rand) {
	t.Helper()
	key, seg := someKeys[r.Intn(len(someKeys))], someSegs[r.Intn(len(someSegs))]
	last := int64(0)
	if at := o.p.last(key); at >= 0 {
		last = o.p.all[at].seq
	}
	switch r.Intn(8) {
	case 0, 1, 2:
		o.puts(t, key, anyLoc(r, last))
	case 3:
		o.dels(t, key, anyLoc(r, last).Seq)
	case 4, 5:
		from := o.from(r, key)
		to := anyLoc(r, from.Seq)
		if r.Intn(4) > 0 {
			to.Seq = from.Seq
		}
		o.moves(t, key, from, to)
	case 6:
		o.holds(seg)
	case 7:
		o.frees(t, seg)
	}
}

// TestP20_1AnyCalls holds an index against the plain form.
func TestP20_1AnyCalls(t *testing.T) {
	r := rand.New(rand.NewSource(20))
	for k := range 400 {
		o := made()
		if k%2 == 0 {
			o.x = &index.Index{}
		}
		for range 100 {
			o.anyCall(t, r)
			o.want(t, someKeys, someSegs)
			if t.Failed() {
				return
			}
		}
	}
}
