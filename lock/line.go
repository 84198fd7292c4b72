package lock

// line is those that wait, in order. It is linked, so that somebody in its midst can leave without a look at the others.
type line struct {
	first, last *member
}

// add puts m behind all others.
func (n *line) add(m *member) {
	m.before = n.last
	if n.last == nil {
		n.first = m
	} else {
		n.last.after = m
	}
	n.last = m
}

// remove takes m, which stands in the line, out of it.
func (n *line) remove(m *member) {
	if m.before == nil {
		n.first = m.after
	} else {
		m.before.after = m.after
	}
	if m.after == nil {
		n.last = m.before
	} else {
		m.after.before = m.before
	}
	m.before, m.after = nil, nil // else it would keep those alive that left since
}
