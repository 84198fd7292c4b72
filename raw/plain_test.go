package raw_test

import (
	"math/rand"
	"testing"

	"folio/api"
	"folio/disk"
	"folio/raw"
	"folio/record"
)

// both is a segment and what it should be.
type both struct {
	r      *rand.Rand
	f      *disk.FS
	s      *raw.Seg
	l      []api.Record
	synced int // records
	room   int
}

func (o *both) record() api.Record {
	if o.r.Intn(8) == 0 {
		return []api.Record{{}, put(0, "k", ""), put(1, string(make([]byte, 101)), ""), {Seq: 1, Key: "k", Value: "v"}}[o.r.Intn(4)]
	}
	one := api.Record{Kind: o.r.Intn(2), Seq: 1 + o.r.Int63n(1<<o.r.Intn(51)), Key: "k" + string(make([]byte, o.r.Intn(20)))}
	if one.Kind == api.KPut {
		b := make([]byte, o.r.Intn(80))
		o.r.Read(b)
		one.Value = string(b)
	}
	return one
}

func (o *both) append(t *testing.T) {
	t.Helper()
	r := o.record()
	b, want := record.Encode(r)
	fails := o.r.Intn(8) == 0
	if want == api.OK && fails {
		want = api.ErrIO
	} else if want == api.OK && o.f.Used()+len(b) > o.room {
		want = api.ErrFull
	}
	if fails {
		o.f.Fail(0)
	}
	if want != api.OK {
		wantNoAppend(t, o.s, r, want)
	} else {
		wantAppend(t, o.s, r, len(o.l))
		o.l = append(o.l, r)
	}
	o.f.Fail(-1)
}

func (o *both) sync(t *testing.T) {
	t.Helper()
	if o.r.Intn(4) == 0 {
		o.f.Fail(0)
		wantErr(t, "Sync", o.s.Sync(), api.ErrIO)
		return
	}
	wantErr(t, "Sync", o.s.Sync(), api.OK)
	o.synced = len(o.l)
}

// crash goes on after a crash that left some of the bytes that were not synced.
func (o *both) crash(t *testing.T) {
	t.Helper()
	whole, synced := len(log(o.l)), len(log(o.l[:o.synced]))
	left := synced + o.r.Intn(whole-synced+1)
	o.f = o.f.Crash(0, []int{left - synced})
	for len(log(o.l)) > left {
		o.l = o.l[:len(o.l)-1]
	}
	o.synced = len(o.l)
	if size := len(log(o.l)); size < left && left+size > o.room {
		wantNoOpen(t, o.f, api.ErrFull)
		o.room = left + size
		o.f.Room(o.room)
	}
	o.s = wantOpen(t, o.f, o.l)
}

// TestP15_1AnyCalls holds a segment against the records that it should have.
func TestP15_1AnyCalls(t *testing.T) {
	for seed := range int64(300) {
		r := rand.New(rand.NewSource(seed))
		o := &both{r: r, room: 200 + r.Intn(3000)}
		o.f = disk.New(o.room)
		o.s, _ = raw.Create(o.f, num)
		o.f.SyncDir()
		for range 80 {
			switch r.Intn(10) {
			case 0:
				o.crash(t)
			case 1, 2:
				o.sync(t)
			default:
				o.append(t)
			}
			wantSeg(t, o.s, o.l)
			wantFile(t, o.f, name, log(o.l))
			wantNames(t, o.f, name)
		}
	}
}
