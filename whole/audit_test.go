package whole_test

import (
	"math"
	"math/rand"
	"strings"
	"testing"

	"tallage/api"
	"tallage/audit"
	"tallage/keys"
	"tallage/tx"
	"tallage/view"
)

// TestAudit: whatever a ledger does, all adds up.
func TestAudit(t *testing.T) {
	for seed := range int64(12) {
		p := newPlayer(t, 4000+seed, seed%2 == 0)
		p.begin()
		for i := range steps {
			if p.Intn(5) == 0 {
				p.l.Tick(1 + p.Intn(3))
			}
			p.l.Run(p.next())
			if n := audit.Check(p.l); n != audit.Fine {
				t.Fatalf("seed %d, step %d: %s", seed, i, audit.Name(n))
			}
		}
	}
}

// TestAnything: whatever stands in the store, each call ends.
func TestAnything(t *testing.T) {
	values := []string{"", "x", keys.Num(0), keys.Num(1), keys.Num(math.MaxInt), keys.Num(0) + keys.Num(math.MaxInt), keys.Num(2) + keys.Num(math.MaxInt), keys.Num(math.MaxInt-1) + keys.Num(math.MaxInt),
		keys.Amount(api.U{1}), keys.Amount(api.U{math.MaxUint64, math.MaxUint64, math.MaxUint64, math.MaxUint64}), strings.Repeat("\xff", 40), keys.Num(9) + keys.Num(4) + keys.Num(1) + keys.Num(math.MaxInt)}
	for seed := range int64(60) {
		p := newPlayer(t, 5000+seed, false)
		p.begin()
		r := rand.New(rand.NewSource(seed))
		for range steps {
			s := p.l.Store()
			if all := s.All(); r.Intn(3) == 0 {
				s.Set(all[r.Intn(len(all))].Key, values[r.Intn(len(values))])
			}
			if r.Intn(20) == 0 {
				n := []int{r.Intn(12), 1 + r.Intn(3), r.Intn(12), r.Intn(3)}
				s.Set(keys.Key(1+r.Intn(43), n[:r.Intn(5)]...), values[r.Intn(len(values))])
			}
			x := p.next()
			before := view.Digest(s)
			if e, _ := p.l.Run(x); e != api.OK && view.Digest(s) != before {
				t.Fatal(tx.Name(x.Kind), "changed something with", e)
			}
			p.l.Tick(r.Intn(3))
			if r.Intn(10) == 0 {
				audit.Check(p.l)
			}
			for kind := 1; kind <= 20; kind++ {
				count, _ := view.Count(kind)
				view.Ask(p.l, view.Query{Kind: kind, N: []int{r.Intn(12), 1 + r.Intn(3), r.Intn(12), r.Intn(3)}[:count]})
			}
		}
	}
}
