package manifest

import (
	"maps"
	"slices"

	"folio/api"
)

// state is what all edits so far come to. It shares no memory with them.
type state struct {
	next int64
	seq  int64
	segs map[int64]api.Seg // by Num
	pars map[int64]api.Par // by Group
}

// clone gives a state that apply may change. What a Par lists is shared: no edit changes a Par that is there.
func (s state) clone() state {
	c := state{next: s.next, seq: s.seq, segs: map[int64]api.Seg{}, pars: map[int64]api.Par{}}
	maps.Copy(c.segs, s.segs)
	maps.Copy(c.pars, s.pars)
	return c
}

// whole gives the edit that makes s of nothing.
func (s state) whole() api.Edit {
	return api.Edit{Next: s.next, Seq: s.seq, Adds: ascending(s.segs), Pars: ascending(s.pars)}
}

// apply makes the changes of e, which edit.Check finds valid. It tells whether they can be made; if not, s is of no use any
// more.
func (s *state) apply(e api.Edit, first bool) bool {
	return raise(&s.next, e.Next) && raise(&s.seq, e.Seq) &&
		remove(s.segs, e.Dels) && remove(s.pars, e.Drops) &&
		s.addSegs(e.Adds) && s.addPars(e.Pars) &&
		// The first edit may be a whole state. In it, a Par outlasts the segments that it names, whose numbers may even have
		// come back since as those of others.
		(first || s.protects(e.Pars))
}

func (s *state) addSegs(l []api.Seg) bool {
	for _, one := range l {
		if one.Num >= s.next || !add(s.segs, one.Num, one) {
			return false
		}
	}
	return len(s.segs) <= api.MaxSegs
}

func (s *state) addPars(l []api.Par) bool {
	for _, p := range l {
		if p.Group >= s.next || !add(s.pars, p.Group, copied(p)) {
			return false
		}
	}
	return len(s.pars) <= api.MaxSegs
}

// protects tells whether all segments that these Pars name are there, and sealed.
func (s *state) protects(l []api.Par) bool {
	for _, p := range l {
		for _, num := range p.Nums {
			// The zero Seg, which stands for one that isn't there, isn't sealed.
			if !s.segs[num].Sealed {
				return false
			}
		}
	}
	return true
}

// raise gives a counter its new value, 0 being none, and tells whether it doesn't go back.
func raise(counter *int64, to int64) bool {
	if to == 0 {
		return true
	}
	ok := to >= *counter
	*counter = to
	return ok
}

// remove tells whether each of nums was there. One that occurs twice isn't, the second time.
func remove[T any](from map[int64]T, nums []int64) bool {
	for _, num := range nums {
		if _, ok := from[num]; !ok {
			return false
		}
		delete(from, num)
	}
	return true
}

// add tells whether there was none with that number.
func add[T any](to map[int64]T, num int64, one T) bool {
	_, there := to[num]
	to[num] = one
	return !there
}

func ascending[T any](m map[int64]T) []T {
	l := make([]T, 0, len(m))
	for _, num := range slices.Sorted(maps.Keys(m)) {
		l = append(l, m[num])
	}
	return l
}

// copied gives a Par with lists of its own.
func copied(p api.Par) api.Par {
	p.Nums, p.Sizes = slices.Clone(p.Nums), slices.Clone(p.Sizes)
	return p
}
