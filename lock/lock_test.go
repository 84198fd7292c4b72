package lock_test

import (
	"math"
	"slices"
	"testing"

	"folio/lock"
)

func wantBool(t *testing.T, what string, got, want bool) {
	t.Helper()
	if got != want {
		t.Errorf("%s: %v", what, got)
	}
}

func wantList(t *testing.T, what string, got []int, want ...int) {
	t.Helper()
	if !slices.Equal(got, want) {
		t.Errorf("%s: %v, not %v", what, got, want)
	}
}

// wantHolders asks that these of the numbers 1 to 20 hold the lock, and no others.
func wantHolders(t *testing.T, l *lock.Lock, want ...int) {
	t.Helper()
	var got []int
	for who := 1; who <= 20; who++ {
		if l.Has(who) {
			got = append(got, who)
		}
	}
	wantList(t, "holders", got, want...)
}

func TestP21_1Example(t *testing.T) {
	l := lock.New()
	wantBool(t, "Ask of reader 1", l.Ask(1, false), true)
	wantBool(t, "Ask of reader 2", l.Ask(2, false), true)
	wantBool(t, "Ask of writer 3", l.Ask(3, true), false)
	wantBool(t, "Ask of reader 4", l.Ask(4, false), false)
	wantBool(t, "Ask of reader 5", l.Ask(5, false), false)
	wantBool(t, "Ask of writer 6", l.Ask(6, true), false)
	wantHolders(t, l, 1, 2)
	wantList(t, "Waiting", l.Waiting(), 3, 4, 5, 6)
	wantList(t, "Leave(1)", l.Leave(1))
	wantHolders(t, l, 2)
	wantList(t, "Leave(2)", l.Leave(2), 3)
	wantHolders(t, l, 3)
	wantList(t, "Leave(3)", l.Leave(3), 4, 5)
	wantHolders(t, l, 4, 5)
	wantList(t, "Waiting", l.Waiting(), 6)
}

func TestP21_1New(t *testing.T) {
	l := lock.New()
	wantHolders(t, l)
	wantList(t, "Waiting", l.Waiting())
	for _, write := range []bool{false, true} {
		l, other := lock.New(), lock.New()
		wantBool(t, "the first Ask", l.Ask(1, write), true)
		wantHolders(t, l, 1)
		wantHolders(t, other)
		wantBool(t, "the first Ask of another one", other.Ask(2, true), true)
		wantHolders(t, l, 1)
		wantHolders(t, other, 2)
	}
}

// Each kind beside each kind of holder.
func TestP21_1TwoAsk(t *testing.T) {
	for kinds := range 4 {
		first, second := kinds&1 != 0, kinds&2 != 0
		l := lock.New()
		l.Ask(1, first)
		together := !first && !second
		wantBool(t, "the second Ask", l.Ask(2, second), together)
		wantBool(t, "Has of the first one", l.Has(1), true)
		wantBool(t, "Has of the second one", l.Has(2), together)
		if together {
			wantList(t, "Waiting", l.Waiting())
			wantList(t, "Leave of the first one", l.Leave(1))
		} else {
			wantList(t, "Waiting", l.Waiting(), 2)
			wantList(t, "Leave of the first one", l.Leave(1), 2)
		}
		wantHolders(t, l, 2)
		wantList(t, "Leave of the second one", l.Leave(2))
		wantHolders(t, l)
		wantBool(t, "Ask behind both", l.Ask(3, true), true)
	}
}

// A reader doesn't overtake a writer that waits, nor does it when the first of several holders has left.
func TestP21_1NobodyOvertakes(t *testing.T) {
	l := lock.New()
	l.Ask(1, false)
	l.Ask(2, false)
	l.Ask(3, true)
	wantBool(t, "Ask of a reader behind a writer", l.Ask(4, false), false)
	l.Leave(1)
	wantBool(t, "Ask of another reader", l.Ask(5, false), false)
	wantHolders(t, l, 2)
	wantList(t, "Waiting", l.Waiting(), 3, 4, 5)
	wantList(t, "Leave of the last holder", l.Leave(2), 3)
	wantBool(t, "Ask of one that left", l.Ask(1, false), false)
	wantList(t, "Waiting", l.Waiting(), 4, 5, 1)
	wantList(t, "Leave of the writer", l.Leave(3), 4, 5, 1)
	wantHolders(t, l, 1, 4, 5)
	wantBool(t, "Ask of a reader, when nobody waits", l.Ask(6, false), true)
}

// One that holds or waits already can't ask, whatever it asks for, and one Leave ends what it has.
func TestP21_1AskTwice(t *testing.T) {
	for kinds := range 8 {
		holder, waiter, again := kinds&1 != 0, kinds&2 != 0, kinds&4 != 0
		o := made()
		o.asks(t, 1, holder)
		o.asks(t, 2, true)
		o.asks(t, 3, waiter)
		o.asks(t, 4, false)
		for range 2 {
			for who := 1; who <= 4; who++ {
				wantBool(t, "another Ask", o.asks(t, who, again), false)
				o.want(t, 1, 2, 3, 4)
			}
		}
		for _, who := range []int{3, 1, 2, 4, 1} {
			o.leaves(t, who)
			o.want(t, 1, 2, 3, 4)
		}
		wantBool(t, "Ask behind all", o.asks(t, 3, again), true)
	}
}

// A reader doesn't become a writer by another Ask, nor the other way.
func TestP21_1AskTwiceKeepsTheKind(t *testing.T) {
	l := lock.New()
	l.Ask(1, false)
	wantBool(t, "Ask of the reader as a writer", l.Ask(1, true), false)
	wantBool(t, "Ask of another reader", l.Ask(2, false), true)
	l = lock.New()
	l.Ask(1, true)
	wantBool(t, "Ask of the writer as a reader", l.Ask(1, false), false)
	wantBool(t, "Ask of a reader", l.Ask(2, false), false)
	l.Ask(3, true)
	wantBool(t, "Ask of the waiting writer as a reader", l.Ask(3, false), false)
	wantList(t, "Leave of the writer", l.Leave(1), 2)
}

func TestP21_1Numbers(t *testing.T) {
	for _, who := range []int{0, -1, -2, math.MinInt, math.MinInt + 1} {
		for kinds := range 4 {
			l := lock.New()
			wantBool(t, "Ask of no number", l.Ask(who, kinds&1 != 0), false)
			wantBool(t, "Has of no number", l.Has(who), false)
			wantList(t, "Waiting", l.Waiting())
			wantBool(t, "Ask of 1", l.Ask(1, kinds&2 != 0), true)
			l.Ask(2, true)
			wantBool(t, "Ask of no number, when somebody waits", l.Ask(who, kinds&1 != 0), false)
			wantBool(t, "Has of no number", l.Has(who), false)
			wantList(t, "Waiting", l.Waiting(), 2)
			if l.Leave(who) != nil {
				t.Error("Leave of no number: not nil")
			}
			wantHolders(t, l, 1)
			wantList(t, "Leave of 1", l.Leave(1), 2)
		}
	}
	for _, who := range []int{1, 2, 1 << 32, math.MaxInt - 1, math.MaxInt} {
		l := lock.New()
		wantBool(t, "Ask", l.Ask(who, true), true)
		wantBool(t, "Has", l.Has(who), true)
		wantBool(t, "Has of another one", l.Has(who-1), false)
		l.Ask(3, true)
		wantList(t, "Leave", l.Leave(who), 3)
		wantBool(t, "Has behind Leave", l.Has(who), false)
		l.Ask(who, false)
		wantList(t, "Waiting", l.Waiting(), who)
		wantList(t, "Leave of the holder", l.Leave(3), who)
	}
}

// Leave of one that neither holds the lock nor waits.
func TestP21_1LeaveOfNone(t *testing.T) {
	o := made()
	for _, ask := range []asker{{}, {1, false}, {2, false}, {3, true}, {4, false}} {
		o.asks(t, ask.who, ask.write)
		for _, who := range []int{9, 0, -1, -2, math.MaxInt, math.MinInt} {
			o.leaves(t, who)
			o.want(t, manyNumbers...)
		}
	}
	for _, who := range []int{3, 1, 2, 4} {
		o.leaves(t, who)
		o.leaves(t, who)
		o.want(t, manyNumbers...)
	}
}

// One that leaves the line lets those behind it in, if they can hold the lock now.
func TestP21_1LeaveOfWaiter(t *testing.T) {
	l := lock.New()
	l.Ask(1, false)
	l.Ask(2, true)
	l.Ask(3, false)
	l.Ask(4, false)
	l.Ask(5, true)
	l.Ask(6, false)
	wantList(t, "Leave of a writer in the midst", l.Leave(5))
	wantList(t, "Waiting", l.Waiting(), 2, 3, 4, 6)
	wantList(t, "Leave of a reader in the midst", l.Leave(3))
	wantList(t, "Waiting", l.Waiting(), 2, 4, 6)
	wantList(t, "Leave of the first writer", l.Leave(2), 4, 6)
	wantHolders(t, l, 1, 4, 6)
	wantList(t, "Waiting", l.Waiting())

	l = lock.New()
	l.Ask(1, true)
	l.Ask(2, true)
	l.Ask(3, false)
	wantList(t, "Leave of a writer behind a writer", l.Leave(2))
	wantHolders(t, l, 1)
	wantList(t, "Waiting", l.Waiting(), 3)
	wantList(t, "Leave of the last one that waits", l.Leave(3))
	wantList(t, "Waiting", l.Waiting())
	wantBool(t, "Ask when nobody waits", l.Ask(4, false), false)
	wantList(t, "Waiting", l.Waiting(), 4)
	wantHolders(t, l, 1)
}

// Of a writer and five that wait behind it each one leaves, and comes back behind another one.
func TestP21_1LeaveOfEachWaiter(t *testing.T) {
	for writers := range 1 << 6 {
		for out := range 6 {
			o := made()
			for who := 1; who <= 6; who++ {
				o.asks(t, who, who == 1 || writers>>(who-1)&1 != 0)
			}
			o.leaves(t, out+1)
			o.want(t, 1, 2, 3, 4, 5, 6)
			o.asks(t, 7, writers&1 != 0)
			o.asks(t, out+1, false)
			o.want(t, 1, 2, 3, 4, 5, 6, 7)
			for who := 7; who > 0; who-- {
				o.leaves(t, who)
				o.want(t, 1, 2, 3, 4, 5, 6, 7)
			}
		}
	}
}

// The order is that of the requests, not that of the numbers.
func TestP21_1Order(t *testing.T) {
	l := lock.New()
	l.Ask(10, true)
	for _, who := range []int{7, 9, 3, 8, 1} {
		l.Ask(who, false)
	}
	wantList(t, "Waiting", l.Waiting(), 7, 9, 3, 8, 1)
	wantList(t, "Leave", l.Leave(10), 7, 9, 3, 8, 1)
	wantList(t, "Waiting", l.Waiting())
	wantHolders(t, l, 1, 3, 7, 8, 9)
}

// One writer of several gets the lock, and none that waits behind it.
func TestP21_1WritersOneByOne(t *testing.T) {
	l := lock.New()
	for _, who := range []int{5, 4, 6} {
		l.Ask(who, true)
	}
	l.Ask(1, false)
	wantList(t, "Leave(5)", l.Leave(5), 4)
	wantHolders(t, l, 4)
	wantList(t, "Leave(4)", l.Leave(4), 6)
	wantHolders(t, l, 6)
	wantList(t, "Leave(6)", l.Leave(6), 1)
	wantHolders(t, l, 1)
	wantList(t, "Waiting", l.Waiting())
	wantList(t, "Leave(1)", l.Leave(1))
	wantHolders(t, l)
}

func TestP21_1Nil(t *testing.T) {
	var l *lock.Lock
	for range 2 {
		for _, who := range manyNumbers {
			wantBool(t, "Ask of a reader", l.Ask(who, false), false)
			wantBool(t, "Ask of a writer", l.Ask(who, true), false)
			wantBool(t, "Has", l.Has(who), false)
			if l.Leave(who) != nil || l.Waiting() != nil {
				t.Error("Leave or Waiting: not nil")
			}
		}
	}
}

// No call of a zero Lock panics, whichever is the first one.
func TestP21_1Zero(t *testing.T) {
	for _, first := range []func(o *both){
		func(o *both) { o.asks(t, 1, false) },
		func(o *both) { o.asks(t, 1, true) },
		func(o *both) { o.leaves(t, 1) },
		func(o *both) { o.want(t, 1) },
		func(o *both) {},
	} {
		o := &both{l: &lock.Lock{}}
		first(o)
		o.want(t, manyNumbers...)
		o.asks(t, 2, true)
		o.asks(t, 3, false)
		o.want(t, manyNumbers...)
	}
}

// spoil changes all that a list may share with others.
func spoil(l []int) {
	l = l[:cap(l)]
	for k := range l {
		l[k] = -7
	}
}

func TestP21_1SharesNothing(t *testing.T) {
	l := lock.New()
	l.Ask(1, true)
	for who := 2; who <= 8; who++ {
		l.Ask(who, who > 5)
	}
	first, second := l.Waiting(), l.Waiting()
	spoil(first)
	wantList(t, "another Waiting", second, 2, 3, 4, 5, 6, 7, 8)
	wantList(t, "Waiting", l.Waiting(), 2, 3, 4, 5, 6, 7, 8)
	got, waiting := l.Leave(1), l.Waiting()
	wantList(t, "Leave", got, 2, 3, 4, 5)
	spoil(got)
	wantList(t, "Waiting of before", waiting, 6, 7, 8)
	wantList(t, "Waiting", l.Waiting(), 6, 7, 8)
	wantHolders(t, l, 2, 3, 4, 5)
	spoil(waiting)
	for who := 2; who <= 4; who++ {
		spoil(l.Leave(who))
	}
	wantList(t, "Leave of the last reader", l.Leave(5), 6)
	wantList(t, "Waiting", l.Waiting(), 7, 8)
}

// Many that wait cost no more than what they are: no call but Waiting goes through all of them.
func TestP21_1Many(t *testing.T) {
	const many = 200_000
	l := lock.New()
	l.Ask(many+1, true)
	for who := many; who > 0; who-- {
		wantBool(t, "Ask", l.Ask(who, who == many), false)
	}
	for who := 2; who < many; who += 2 {
		wantList(t, "Leave of one that waits", l.Leave(who))
		wantBool(t, "Has", l.Has(who), false)
	}
	wantList(t, "Leave of the writer", l.Leave(many+1), many)
	got := l.Leave(many)
	if len(got) != many/2 || got[0] != many-1 || got[len(got)-1] != 1 {
		t.Fatalf("Leave of another writer: %d of them, or in another order", len(got))
	}
	l.Ask(many+2, true)
	for who := 1; who < many-1; who += 2 {
		wantBool(t, "Has", l.Has(who), true)
		wantList(t, "Leave of a reader", l.Leave(who))
	}
	wantList(t, "Leave of the last reader", l.Leave(many-1), many+2)
}
