package sealed_test

import (
	"bytes"
	"math/rand"
	"strings"
	"testing"

	"folio/api"
	"folio/record"
	"folio/sealed"
)

func anyText(r *rand.Rand, most int) string {
	b := make([]byte, r.Intn(1+r.Intn(most+1)))
	if r.Intn(2) == 0 {
		r.Read(b)
		return string(b)
	}
	for k := range b {
		b[k] = "etaoin"[r.Intn(6)]
	}
	return string(b)
}

// anyRecord gives one of few keys or of many, and now and then one that isn't valid.
func anyRecord(r *rand.Rand, faults bool) api.Record {
	one := api.Record{Kind: r.Intn(2), Seq: 1 + r.Int63n(1<<r.Intn(51)), Key: strings.Repeat("k", 1+r.Intn(3))}
	if r.Intn(2) == 0 {
		one.Key += anyText(r, mostKey-3)
	}
	if one.Kind == api.KPut {
		one.Value = anyText(r, []int{0, 20, 200, mostValue}[r.Intn(4)])
	}
	if faults && r.Intn(20) == 0 {
		switch r.Intn(4) {
		case 0:
			one.Key = ""
		case 1:
			one.Key = strings.Repeat("k", mostKey+1)
		case 2:
			one.Seq = -one.Seq
		default:
			one.Kind = r.Intn(9) - 4
		}
	}
	return one
}

// plainError is the error that Build should answer.
func plainError(l []api.Record) api.Errno {
	for _, one := range l {
		if err := record.Check(one); err != api.OK {
			return err
		}
	}
	return api.OK
}

// TestP16_1AnyRecords holds segments against the records that they should have, and against the same with bytes changed.
func TestP16_1AnyRecords(t *testing.T) {
	failed := 0
	for seed := range int64(400) {
		r := rand.New(rand.NewSource(seed))
		l := make([]api.Record, r.Intn(1+r.Intn(40)))
		for k := range l {
			l[k] = anyRecord(r, seed%4 == 0)
		}
		if want := plainError(l); want != api.OK {
			failed++
			if b, err := sealed.Build(l); b != nil || err != want {
				t.Fatalf("Build: %d bytes, error %d; not none and %d", len(b), err, want)
			}
			continue
		}
		b := built(t, l)
		wantSeg(t, opened(t, b), l)
		for range 4 {
			changed := bytes.Clone(b)
			for range 1 + r.Intn(3) {
				changed[r.Intn(len(b))] ^= byte(1 + r.Intn(255))
			}
			wantSameOrCorrupt(t, changed, l)
		}
	}
	if failed == 0 || failed > 100 {
		t.Errorf("%d lists with records that aren't valid", failed)
	}
}
