package disk_test

import (
	"bytes"
	"maps"
	"math"
	"math/rand"
	"slices"
	"strings"
	"testing"

	"folio/api"
	"folio/disk"
)

type plainFile struct {
	synced, tail []byte
}

// plain is a file system by the words: all directories since the last SyncDir, one a change, the last one that of now.
type plain struct {
	room  int
	dirs  []map[string]*plainFile
	calls int
	fail  []api.Errno // of the calls to come; as many as it matters
}

func newPlain(room int) *plain {
	return &plain{room: min(max(room, 0), 1<<22), dirs: []map[string]*plainFile{{}}}
}

func (p *plain) now() map[string]*plainFile { return p.dirs[len(p.dirs)-1] }

func (p *plain) used() int {
	sum := 0
	for _, one := range p.now() {
		sum += len(one.synced) + len(one.tail)
	}
	return sum
}

func plainName(s string) bool {
	return s != "" && len(s) <= 20 && strings.Trim(s, "abcdefghijklmnopqrstuvwxyzABCDEFGHIJKLMNOPQRSTUVWXYZ0123456789.") == ""
}

func (p *plain) change(what func(d map[string]*plainFile)) {
	d := maps.Clone(p.now())
	what(d)
	p.dirs = append(p.dirs, d)
}

// call does a modifying call that the text kind names.
func (p *plain) call(kind, name, to string, b []byte) api.Errno {
	p.calls++
	if len(p.fail) > 0 {
		err := p.fail[0]
		p.fail = p.fail[1:]
		if err != api.OK {
			return err
		}
	}
	one := p.now()[name]
	if kind != "Create" && kind != "SyncDir" && one == nil {
		return api.ErrNotFound
	}
	switch kind {
	case "Create":
		if !plainName(name) {
			return api.ErrForm
		}
		if one == nil && len(p.now()) == 150 {
			return api.ErrFull
		}
		p.change(func(d map[string]*plainFile) { d[name] = &plainFile{} })
	case "Append":
		if p.used()+len(b) > p.room {
			return api.ErrFull
		}
		one.tail = append(one.tail, b...)
	case "Sync":
		one.synced, one.tail = append(one.synced, one.tail...), nil
	case "SyncDir":
		p.dirs = p.dirs[len(p.dirs)-1:]
	case "Rename":
		if !plainName(to) {
			return api.ErrForm
		}
		p.change(func(d map[string]*plainFile) {
			if name != to {
				d[to] = one
				delete(d, name)
			}
		})
	case "Remove":
		p.change(func(d map[string]*plainFile) { delete(d, name) })
	}
	return api.OK
}

func (p *plain) rot(name string, sector int, x byte) api.Errno {
	one := p.now()[name]
	if one == nil {
		return api.ErrNotFound
	}
	all := slices.Concat(one.synced, one.tail)
	if sector < 0 || sector >= (len(all)+63)/64 {
		return api.ErrRange
	}
	all = rotten(all, sector, x)
	one.synced, one.tail = all[:len(one.synced):len(one.synced)], all[len(one.synced):]
	return api.OK
}

func (p *plain) crash(n int, tails []int) *plain {
	c := newPlain(p.room)
	d := p.dirs[min(max(n, 0), len(p.dirs)-1)]
	for k, name := range slices.Sorted(maps.Keys(d)) {
		one := &plainFile{synced: bytes.Clone(d[name].synced)}
		for i, x := range d[name].tail {
			if k < len(tails) && i < tails[k] {
				one.synced = append(one.synced, x)
			}
		}
		c.dirs[0][name] = one
	}
	return c
}

func (p *plain) told() string {
	s := ""
	for _, name := range slices.Sorted(maps.Keys(p.now())) {
		s += name + "=" + string(p.now()[name].synced) + string(p.now()[name].tail) + " "
	}
	return s
}

// both is a file system and what it should be.
type both struct {
	f *disk.FS
	p *plain
	r *rand.Rand
}

func (o both) name() string {
	if o.r.Intn(20) == 0 {
		return []string{"", "a-b", "é", strings.Repeat("x", 21), "nobody", " "}[o.r.Intn(6)]
	}
	return []string{"a", "b", "C", "10", "9.raw", strings.Repeat("x", 20)}[o.r.Intn(6)]
}

func (o both) bytes() []byte {
	b := make([]byte, o.r.Intn([]int{1, 3, 70, 200}[o.r.Intn(4)]))
	o.r.Read(b)
	return b
}

func (o both) number() int {
	switch o.r.Intn(12) {
	case 0:
		return math.MaxInt
	case 1:
		return math.MinInt
	default:
		return o.r.Intn(9) - 1
	}
}

func (o both) change(t *testing.T) {
	t.Helper()
	name, to, b := o.name(), o.name(), o.bytes()
	var got api.Errno
	kind := []string{"Create", "Append", "Append", "Append", "Sync", "SyncDir", "Rename", "Remove"}[o.r.Intn(8)]
	switch kind {
	case "Create":
		got = o.f.Create(name)
	case "Append":
		got = o.f.Append(name, b)
	case "Sync":
		got = o.f.Sync(name)
	case "SyncDir":
		got = o.f.SyncDir()
	case "Rename":
		got = o.f.Rename(name, to)
	case "Remove":
		got = o.f.Remove(name)
	}
	wantErr(t, kind+" "+name+" "+to, got, o.p.call(kind, name, to, b))
}

func (o both) set(t *testing.T) {
	t.Helper()
	n := o.number()
	switch o.r.Intn(6) {
	case 0:
		o.f.Fail(n)
		o.p.fail = nil
		if n >= 0 && n < math.MaxInt {
			o.p.fail = append(make([]api.Errno, n), api.ErrIO)
		}
	case 1:
		if o.r.Intn(2) == 0 {
			n = o.r.Intn(2000)
		}
		o.f.Room(n)
		o.p.room = newPlain(n).room
	default:
		name, x := o.name(), byte(o.r.Intn(256))
		wantErr(t, "Rot "+name, o.f.Rot(name, n, x), o.p.rot(name, n, x))
	}
}

// want looks at all that can be seen.
func (o both) want(t *testing.T) {
	t.Helper()
	wantFiles(t, "all", o.f, o.p.told())
	wantInt(t, "Used", o.f.Used(), o.p.used())
	wantInt(t, "Calls", o.f.Calls(), o.p.calls)
}

func (o both) crash() both {
	n, tails := o.number(), make([]int, o.r.Intn(8))
	for k := range tails {
		tails[k] = o.number() * []int{1, 20}[o.r.Intn(2)]
	}
	return both{o.f.Crash(n, tails), o.p.crash(n, tails), o.r}
}

// TestP13_3AnyCalls holds P13.1 to P13.3 against the plain form.
func TestP13_3AnyCalls(t *testing.T) {
	r := rand.New(rand.NewSource(13))
	for range 400 {
		room := 100 + r.Intn(2000)
		o := both{disk.New(room), newPlain(room), r}
		for range 120 {
			switch r.Intn(20) {
			case 0, 1:
				o.set(t)
			case 2:
				after := o.crash()
				after.want(t)
				o.want(t)
				if r.Intn(4) == 0 {
					o = after
				}
			default:
				o.change(t)
			}
			o.want(t)
		}
		if t.Failed() {
			return
		}
	}
}
