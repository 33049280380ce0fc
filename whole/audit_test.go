package whole_test

import (
	"strings"
	"testing"

	"tallage/api"
	"tallage/audit"
	"tallage/keys"
	"tallage/view"
	"tallage/wad"
)

// TestAudit: whatever a ledger does, all adds up.
func TestAudit(t *testing.T) {
	for seed := range int64(12) {
		p := newPlayer(t, 4000+seed, seed%2 == 0)
		p.begin()
		for i := range steps {
			if p.Intn(5) == 0 {
				p.l.Tick(1 + p.Intn(3))
			}
			p.l.Run(p.next())
			if n := audit.Check(p.l); n != audit.Fine {
				t.Fatalf("seed %d, step %d: %s", seed, i, audit.Name(n))
			}
		}
	}
}

// TestOddEntries: whatever stands in the store, no call panics.
func TestOddEntries(t *testing.T) {
	values := []string{"", "x", keys.Num(0), keys.Num(1), keys.Num(2) + keys.Num(9), keys.Amount(api.U{1}), keys.Amount(wad.Most()), strings.Repeat("\xff", 40)}
	for seed := range int64(20) {
		p := newPlayer(t, 5000+seed, false)
		p.begin()
		for range steps {
			s := p.l.Store()
			if all := s.All(); p.Intn(3) == 0 {
				s.Set(all[p.Intn(len(all))].Key, values[p.Intn(len(values))])
			}
			p.l.Run(p.next())
			p.l.Tick(1)
			for kind := 1; kind <= 20; kind++ {
				count, _ := view.Count(kind)
				view.Ask(p.l, view.Query{Kind: kind, N: []int{p.Intn(12), p.strategy(), p.Intn(12), p.Intn(3)}[:count]})
			}
		}
		audit.Check(p.l)
	}
}
