package whole_test

import (
	"math/big"
	"math/rand"
	"slices"
	"testing"

	"tallage/alloc"
	"tallage/api"
	"tallage/bank"
	"tallage/cell"
	"tallage/claim"
	"tallage/deleg"
	"tallage/exit"
	"tallage/holding"
	"tallage/keys"
	"tallage/ledger"
	"tallage/magn"
	"tallage/member"
	"tallage/pool"
	"tallage/roster"
	"tallage/store"
	"tallage/tx"
	"tallage/u256"
	"tallage/vault"
	"tallage/wad"
)

const (
	scripts = 40
	steps   = 220
)

func newPlayer(t *testing.T, seed int64, mild bool) *player {
	t.Helper()
	l, e := ledger.New(settings)
	if e != api.OK {
		t.Fatal(e)
	}
	return &player{Rand: rand.New(rand.NewSource(seed)), l: l, mild: mild}
}

func toBig(a api.U) *big.Int { return new(big.Int).SetBytes(u256.Bytes(a)) }

func toRat(a api.U) *big.Rat { return new(big.Rat).SetInt(toBig(a)) }

func int0(a api.U) int {
	n, _ := u256.Int(a)
	return n
}

// TestStore: with an error the store is as it was, tokens stay, and magnitudes
// and shares add up.
func TestStore(t *testing.T) {
	went := map[int]int{}
	for seed := range int64(scripts) {
		p := newPlayer(t, seed, false)
		p.begin()
		for range steps {
			if p.Intn(5) == 0 {
				p.l.Tick(1 + p.Intn(3))
			}
			x := p.next()
			s := p.l.Store()
			before, entries := s.All(), stakersEntries(s)
			most, currents := magnitudes(s), currents(s)
			e, events := p.l.Run(x)
			if e != api.OK && (len(events) > 0 || !slices.Equal(before, s.All())) {
				t.Fatalf("seed %d: something changed with %v", seed, e)
			}
			if e == api.OK {
				went[x.Kind]++
			}
			for at, was := range most {
				if now := magn.Max(s, at[0], at[1]); u256.Cmp(now, was) > 0 {
					t.Fatalf("seed %d: the magnitude of %v rises", seed, at)
				}
			}
			if x.Kind == tx.Slash && e == api.OK {
				if !slices.Equal(entries, stakersEntries(s)) {
					t.Fatalf("seed %d: a slash touches a staker", seed)
				}
				checkSlash(t, p.l, x, most, currents)
			}
			checkMagnitudes(t, s)
			checkTokens(t, s)
		}
	}
	for _, kind := range []int{tx.Deposit, tx.Donate, tx.Delegate, tx.Undelegate, tx.Redelegate, tx.Exit, tx.Complete, tx.Allocate, tx.Slash, tx.Join, tx.Leave, tx.Submit, tx.Post, tx.Disable, tx.Claim, tx.Transfer} {
		if went[kind] < 3 {
			t.Errorf("%s went through %d times", tx.Name(kind), went[kind])
		}
	}
}

// stakersEntries tells deposits, factors, and withdrawals.
func stakersEntries(s *store.Store) []api.Pair {
	var l []api.Pair
	for _, table := range []int{9, 10, 11, 15, 17, 18, 20} {
		l = append(l, s.Under(keys.Table(table))...)
	}
	return l
}

func magnitudes(s *store.Store) map[[2]int]api.U {
	m := map[[2]int]api.U{}
	for operator := 4; operator <= 6; operator++ {
		for strategy := 1; strategy <= strategies; strategy++ {
			m[[2]int{operator, strategy}] = magn.Max(s, operator, strategy)
		}
	}
	return m
}

func currents(s *store.Store) map[alloc.Id]api.U {
	m := map[alloc.Id]api.U{}
	for at := range magnitudes(s) {
		for service := 7; service <= 8; service++ {
			for set := range 2 {
				x := alloc.Id{Operator: at[0], Strategy: at[1], Service: service, Set: set}
				m[x] = alloc.Current(s, x)
			}
		}
	}
	return m
}

// checkSlash: a slash lowers the magnitude by at most what its set had, leaves
// the other sets', and was let through for a member, or one whose tail lasts.
func checkSlash(t *testing.T, l *ledger.Ledger, x api.Tx, most map[[2]int]api.U, was map[alloc.Id]api.U) {
	t.Helper()
	s := l.Store()
	set, operator := x.N[0], x.N[1]
	until, left := member.Until(s, x.From, set, operator)
	if !member.In(s, x.From, set, operator) && !(left && l.Block() <= until) {
		t.Fatal("who can't be slashed was")
	}
	for id, had := range was {
		slashed := id.Operator == operator && id.Service == x.From && id.Set == set && slices.Contains(x.N[2:], id.Strategy)
		fell, ok := u256.Sub(most[[2]int{id.Operator, id.Strategy}], magn.Max(s, id.Operator, id.Strategy))
		if slashed && (!ok || u256.Cmp(fell, had) > 0) {
			t.Fatalf("%v had %v, and %v is gone", id, had, fell)
		}
		if !slashed && alloc.Current(s, id) != had {
			t.Fatalf("another set's magnitude changed: %v", id)
		}
	}
}

func checkMagnitudes(t *testing.T, s *store.Store) {
	t.Helper()
	for at, most := range magnitudes(s) {
		sum := alloc.Sum(s, at[0], at[1])
		if sum != alloc.Encumbered(s, at[0], at[1]) || u256.Cmp(sum, most) > 0 || !wad.Good(most) {
			t.Fatalf("%v: sum %v, encumbered %v, most %v", at, sum, alloc.Encumbered(s, at[0], at[1]), most)
		}
	}
}

func checkTokens(t *testing.T, s *store.Store) {
	t.Helper()
	for token := 1; token <= 2; token++ {
		if sum, ok := bank.Total(s, token); !ok || sum != cell.Amount(s, bank.Supply(token)) {
			t.Fatalf("token %d: %v", token, sum)
		}
		if sum, _ := u256.Add(pool.Paid(s, token), pool.Left(s, token)); sum != pool.Submitted(s, token) {
			t.Fatalf("rewards of token %d", token)
		}
	}
	for strategy := 1; strategy <= strategies; strategy++ {
		parts, worth := exit.Left(s, strategy), new(big.Int)
		for operator := range accounts + 1 {
			parts, _ = u256.Add(parts, holding.Part(s, operator, strategy))
		}
		for staker := 1; staker <= accounts; staker++ {
			worth.Add(worth, toBig(deleg.Worth(s, staker, strategy)))
		}
		for _, id := range exit.All(s) {
			if w, _ := exit.Get(s, id); w.Strategy == strategy {
				_, m, _ := deleg.Ends(s, id, settings.Delay)
				worth.Add(worth, toBig(exit.Pays(w, m)))
			}
		}
		total := vault.Total(s, strategy)
		if parts != total || u256.Cmp(total, vault.Stock(s, strategy)) > 0 || worth.Cmp(toBig(total)) > 0 {
			t.Fatalf("strategy %d: parts %v, shares %v, stock %v, worth %v", strategy, parts, total, vault.Stock(s, strategy), worth)
		}
	}
}

// eager is what each deposit and each withdrawal were worth, if each slash was
// taken from it at once, and nothing was rounded; and how often it was touched.
type eager struct {
	worth   map[[2]int]*big.Rat // by staker and strategy
	waits   map[int]*big.Rat    // by id
	touched map[[2]int]int64
	wait    map[int]int64
	low     bool // whether a magnitude or a factor was below 10^9
}

func newEager() *eager {
	return &eager{map[[2]int]*big.Rat{}, map[int]*big.Rat{}, map[[2]int]int64{}, map[int]int64{}, false}
}

func (g *eager) of(at [2]int) *big.Rat {
	if g.worth[at] == nil {
		g.worth[at] = new(big.Rat)
	}
	return g.worth[at]
}

// leave takes x of d shares of a deposit to a withdrawal.
func (g *eager) leave(at [2]int, id int, x, d api.U) {
	part := new(big.Rat).Mul(g.of(at), new(big.Rat).Quo(toRat(x), toRat(d)))
	g.worth[at] = new(big.Rat).Sub(g.of(at), part)
	g.waits[id] = part
	g.wait[id] = g.touched[at]
}

func (g *eager) slash(s *store.Store, block, operator, strategy int, from, to api.U) {
	if from == to {
		return
	}
	by := new(big.Rat).Quo(toRat(to), toRat(from))
	for at := range g.worth {
		if at[1] == strategy && roster.Of(s, at[0]) == operator {
			g.worth[at] = new(big.Rat).Mul(g.worth[at], by)
			g.touched[at]++
		}
	}
	for id := range g.waits {
		w, _ := exit.Get(s, id)
		if w.Operator == operator && w.Strategy == strategy && block <= w.Block+settings.Delay {
			g.waits[id] = new(big.Rat).Mul(g.waits[id], by)
			g.wait[id]++
		}
	}
}

// near holds what something is worth against what it is in the eager model.
func (g *eager) near(t *testing.T, what string, got api.U, want *big.Rat, k int64) {
	t.Helper()
	lack := new(big.Rat).Sub(want, toRat(got))
	if lack.Sign() < 0 {
		t.Fatalf("%s is worth %v, eagerly %v", what, toBig(got), want.FloatString(3))
	}
	most := new(big.Rat).Mul(want, big.NewRat(k, 1_000_000_000))
	most.Add(most, big.NewRat(k+1, 1))
	if !g.low && lack.Cmp(most) > 0 {
		t.Fatalf("%s is worth %v, eagerly %v, touched %d times", what, toBig(got), want.FloatString(3), k)
	}
}

// follow changes the model by a transaction that went through.
func (g *eager) follow(t *testing.T, p *player, before *ledger.Ledger, x api.Tx, events []api.Event) {
	t.Helper()
	for _, e := range events {
		n := func(i int) int { return int0(e.L[i]) }
		switch {
		case e.Kind == 6: // deposit
			at := [2]int{n(0), n(1)}
			g.worth[at] = new(big.Rat).Add(g.of(at), toRat(e.L[3]))
			g.touched[at]++
		case e.Kind == 9 && n(1) != 0: // delegate
			for strategy := 1; strategy <= strategies; strategy++ {
				g.touched[[2]int{n(0), strategy}]++
			}
		case e.Kind == 10: // exit
			at := [2]int{n(1), n(2)}
			d, shares := holding.Deposit(before.Store(), at[0], at[1]), holding.Deposit(p.l.Store(), at[0], at[1])
			part, _ := u256.Sub(d, shares)
			g.leave(at, n(0), part, d)
			if x.Kind != tx.Exit {
				g.wait[n(0)]++
			}
		case e.Kind == 19: // slash
			g.slash(p.l.Store(), p.l.Block(), n(2), n(3), e.L[5], e.L[6])
		case e.Kind == 11: // complete
			g.complete(t, before, x, e)
		}
	}
}

func (g *eager) complete(t *testing.T, before *ledger.Ledger, x api.Tx, e api.Event) {
	t.Helper()
	id := x.N[0]
	w, _ := exit.Get(before.Store(), id)
	if before.Block() <= w.Block+settings.Delay {
		t.Fatal("a withdrawal is completed ahead of its time")
	}
	if g.waits[id] == nil {
		t.Fatal("a withdrawal is completed twice")
	}
	g.near(t, "a withdrawal", e.L[2], g.waits[id], g.wait[id])
	if x.N[1] == 0 {
		at := [2]int{w.Staker, w.Strategy}
		g.worth[at] = new(big.Rat).Add(g.of(at), toRat(e.L[2]))
		g.touched[at]++
	}
	delete(g.waits, id)
}

// TestLazy: what is worth less by factors is never worth more than if each
// slash was taken at once, and not much less.
func TestLazy(t *testing.T) {
	low := u256.Of(1_000_000_000)
	exact := 0
	for seed := range int64(scripts) {
		p := newPlayer(t, 1000+seed, seed%4 > 0)
		p.begin()
		g := newEager()
		for range steps {
			if p.Intn(4) == 0 {
				p.l.Tick(1 + p.Intn(3))
			}
			before := p.l.Copy()
			x := p.next()
			e, events := p.l.Run(x)
			if e == api.OK {
				g.follow(t, p, before, x, events)
			}
			s := p.l.Store()
			for _, m := range magnitudes(s) {
				g.low = g.low || u256.Cmp(m, low) < 0
			}
			for at, want := range g.worth {
				g.low = g.low || u256.Cmp(holding.Factor(s, at[0], at[1]), low) < 0
				g.near(t, "a deposit", deleg.Worth(s, at[0], at[1]), want, g.touched[at])
			}
			if len(exit.All(s)) != len(g.waits) {
				t.Fatal("withdrawals are lost")
			}
		}
		if !g.low {
			exact++
		}
	}
	if exact < scripts/4 {
		t.Error("magnitudes were too low too often", exact)
	}
}

// TestClaims: claims of an earner and a token pay together the greatest amount
// that was claimed, and never more than was submitted.
func TestClaims(t *testing.T) {
	for seed := range int64(10) {
		p := newPlayer(t, 2000+seed, true)
		p.begin()
		for service := 7; service <= 8; service++ {
			for token := 1; token <= 2; token++ {
				p.run(tx.Submit, service, []int{token}, p.amount(38))
			}
		}
		most := map[[2]int]api.U{}
		for range 300 {
			if p.Intn(5) == 0 {
				p.l.Tick(1)
			}
			x := p.other(api.Tx{From: p.account()})
			if x.Kind == 0 {
				continue
			}
			block := p.l.Block()
			e, _ := p.l.Run(x)
			if x.Kind == tx.Claim && e == api.OK {
				c := x.Claim.Leaves[0]
				at := [2]int{x.Claim.Earner, c.Token}
				if u256.Cmp(c.Amount, most[at]) <= 0 {
					t.Fatal("what was paid is paid again")
				}
				most[at] = c.Amount
				if block < settings.Active {
					t.Fatal("a root is not active yet")
				}
			}
			paid := map[int]api.U{}
			for at, a := range most {
				if claim.Paid(p.l.Store(), at[0], at[1]) != a {
					t.Fatal("Paid", at)
				}
				paid[at[1]], _ = u256.Add(paid[at[1]], a)
			}
			for token, sum := range paid {
				if pool.Paid(p.l.Store(), token) != sum || u256.Cmp(sum, pool.Submitted(p.l.Store(), token)) > 0 {
					t.Fatal("more is paid than was submitted")
				}
			}
		}
		if len(most) == 0 {
			t.Error("nothing was claimed")
		}
	}
}
