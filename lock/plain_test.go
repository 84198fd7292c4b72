package lock_test

import (
	"math"
	"math/rand"
	"slices"
	"testing"

	"folio/lock"
)

// asker is one that holds the lock or waits for it.
type asker struct {
	who   int
	write bool
}

// plain is what a lock should be, by the chapter's words.
type plain struct {
	holders, waiters []asker
}

func at(l []asker, who int) int {
	return slices.IndexFunc(l, func(a asker) bool { return a.who == who })
}

func (p *plain) onlyReaders() bool {
	return !slices.ContainsFunc(p.holders, func(a asker) bool { return a.write })
}

func (p *plain) can(a asker) bool {
	if len(p.holders) == 0 {
		return true
	}
	return !a.write && p.onlyReaders()
}

func (p *plain) has(who int) bool { return at(p.holders, who) >= 0 }

func (p *plain) ask(who int, write bool) bool {
	if who < 1 || p.has(who) || at(p.waiters, who) >= 0 {
		return false
	}
	a := asker{who, write}
	if len(p.waiters) == 0 && p.can(a) {
		p.holders = append(p.holders, a)
		return true
	}
	p.waiters = append(p.waiters, a)
	return false
}

func (p *plain) leave(who int) []int {
	if k := at(p.holders, who); k >= 0 {
		p.holders = slices.Delete(p.holders, k, k+1)
	}
	if k := at(p.waiters, who); k >= 0 {
		p.waiters = slices.Delete(p.waiters, k, k+1)
	}
	var got []int
	for len(p.waiters) > 0 && p.can(p.waiters[0]) {
		got = append(got, p.waiters[0].who)
		p.holders = append(p.holders, p.waiters[0])
		p.waiters = p.waiters[1:]
	}
	return got
}

func (p *plain) waiting() []int {
	var l []int
	for _, a := range p.waiters {
		l = append(l, a.who)
	}
	return l
}

// both is a lock and what it should be.
type both struct {
	l *lock.Lock
	p plain
}

func made() *both { return &both{l: lock.New()} }

func (o *both) asks(t *testing.T, who int, write bool) bool {
	t.Helper()
	want, got := o.p.ask(who, write), o.l.Ask(who, write)
	if got != want {
		t.Errorf("Ask(%d, %v): %v", who, write, got)
	}
	return want
}

func (o *both) leaves(t *testing.T, who int) []int {
	t.Helper()
	was := o.p.has(who) || at(o.p.waiters, who) >= 0
	want, got := o.p.leave(who), o.l.Leave(who)
	if !slices.Equal(got, want) {
		t.Errorf("Leave(%d): %v, not %v", who, got, want)
	}
	if !was && got != nil {
		t.Errorf("Leave(%d): not nil, though it neither held the lock nor waited", who)
	}
	return want
}

// want looks at all that can be seen of these numbers, and at all that wait.
func (o *both) want(t *testing.T, whos ...int) {
	t.Helper()
	for _, who := range whos {
		if got := o.l.Has(who); got != o.p.has(who) {
			t.Errorf("Has(%d): %v", who, got)
		}
	}
	wantList(t, "Waiting", o.l.Waiting(), o.p.waiting()...)
}

// does makes one of the nine calls of three numbers.
func (o *both) does(t *testing.T, call int) {
	t.Helper()
	who := call/3 + 1
	switch call % 3 {
	case 0:
		o.asks(t, who, false)
	case 1:
		o.asks(t, who, true)
	case 2:
		o.leaves(t, who)
	}
}

// Each row of six calls of three numbers, held against the plain form.
func TestP21_1EachFewCalls(t *testing.T) {
	for row := range 9 * 9 * 9 * 9 * 9 * 9 {
		o := made()
		for rest, n := row, 0; n < 6; rest, n = rest/9, n+1 {
			o.does(t, rest%9)
			o.want(t, 1, 2, 3)
		}
		if t.Failed() {
			t.Fatalf("row %d", row)
		}
	}
}

// manyNumbers are some that may ask and some that may not.
var manyNumbers = []int{1, 2, 3, 4, 5, 6, 7, 8, 9, 10, 64, 1<<32 + 1, math.MaxInt - 1, math.MaxInt, 0, -1, -2, math.MinInt + 1, math.MinInt}

// anyCall makes a call, asksOfTen of ten times an Ask, writersOfTen of ten of these as a writer.
func (o *both) anyCall(t *testing.T, r *rand.Rand, asksOfTen, writersOfTen int) {
	t.Helper()
	who := manyNumbers[r.Intn(len(manyNumbers))]
	if r.Intn(10) < asksOfTen {
		o.asks(t, who, r.Intn(10) < writersOfTen)
		return
	}
	o.leaves(t, who)
}

// TestP21_1AnyCalls holds a lock against the plain form.
func TestP21_1AnyCalls(t *testing.T) {
	r := rand.New(rand.NewSource(21))
	for k := range 1000 {
		o := made()
		if k%2 == 0 {
			o.l = &lock.Lock{}
		}
		asks, writers := 3+r.Intn(6), r.Intn(7)
		for range 200 {
			o.anyCall(t, r, asks, writers)
			o.want(t, manyNumbers...)
			if t.Failed() {
				return
			}
		}
	}
}
