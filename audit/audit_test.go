package audit_test

import (
	"math"
	"slices"
	"strings"
	"testing"

	"tallage/alloc"
	"tallage/api"
	"tallage/audit"
	"tallage/bank"
	"tallage/cell"
	"tallage/history"
	"tallage/keys"
	"tallage/ledger"
	"tallage/store"
	"tallage/tx"
	"tallage/u256"
	"tallage/wad"
)

const half = 500_000_000_000_000_000

var (
	settings = api.Settings{Owner: 1, Pauser: 2, Updater: 3, Delay: 5, Tail: 4, Config: 2, Active: 3}
	huge     = api.U{math.MaxUint64, math.MaxUint64, math.MaxUint64, math.MaxUint64}
)

func of(n uint64) api.U { return u256.Of(n) }

func run(t *testing.T, l *ledger.Ledger, kind, from int, n []int, a ...uint64) {
	t.Helper()
	x := api.Tx{Kind: kind, From: from, N: n}
	for _, b := range a {
		x.A = append(x.A, of(b))
	}
	if e, _ := l.Run(x); e != api.OK {
		t.Fatal(tx.Name(kind), e)
	}
	if n := audit.Check(l); n != audit.Fine {
		t.Fatal(tx.Name(kind), audit.Name(n))
	}
}

// played tells a ledger in which a bit of all was done: 7 chose 8, that was
// slashed by 9; 10 chose nobody.
func played(t *testing.T) *ledger.Ledger {
	t.Helper()
	l, _ := ledger.New(settings)
	run(t, l, tx.Mint, 1, []int{1, 7}, 1000)
	run(t, l, tx.Mint, 1, []int{1, 10}, 1000)
	run(t, l, tx.Mint, 1, []int{2, 9}, 90)
	run(t, l, tx.Strategy, 1, []int{1})
	run(t, l, tx.Strategy, 1, []int{1})
	run(t, l, tx.Deposit, 7, []int{1}, 100)
	run(t, l, tx.Deposit, 10, []int{1}, 30)
	run(t, l, tx.Operator, 8, []int{0})
	run(t, l, tx.Service, 9, nil)
	run(t, l, tx.Set, 9, []int{1})
	run(t, l, tx.Submit, 9, []int{2}, 40)
	run(t, l, tx.Join, 8, []int{9, 0})
	run(t, l, tx.Delegate, 7, []int{8})
	l.Tick(2)
	run(t, l, tx.Allocate, 8, []int{9, 0, 1}, half)
	run(t, l, tx.Exit, 7, []int{1}, 20)
	run(t, l, tx.Exit, 10, []int{1}, 10)
	run(t, l, tx.Slash, 9, []int{0, 8, 1}, half)
	return l
}

func TestNames(t *testing.T) {
	for n, word := range strings.Fields("fine supply shares stock part left sum max roster rewards") {
		if audit.Name(n) != word {
			t.Error(n, audit.Name(n))
		}
	}
	for _, n := range []int{-1, 10, math.MinInt, math.MaxInt} {
		if audit.Name(n) != "unknown" {
			t.Error(n, audit.Name(n))
		}
	}
	for want, n := range []int{audit.Fine, audit.Supply, audit.Shares, audit.Stock, audit.Part, audit.Left, audit.Sum, audit.Max, audit.Roster, audit.Rewards} {
		if n != want {
			t.Error(n, want)
		}
	}
}

func TestNoLedger(t *testing.T) {
	for _, l := range []*ledger.Ledger{nil, {}} {
		worths, ok := audit.Worths(l, 8, 1)
		waits, is := audit.Waits(l, 1)
		if audit.Check(l) != audit.Supply || worths != (api.U{}) || ok || waits != (api.U{}) || is {
			t.Error("something is told")
		}
	}
	l, _ := ledger.New(settings)
	if audit.Check(l) != audit.Fine {
		t.Error("a new ledger", audit.Name(audit.Check(l)))
	}
}

func TestSums(t *testing.T) {
	l := played(t)
	for _, c := range []struct {
		operator, strategy int
		want               uint64
	}{{8, 1, 60}, {0, 1, 20}, {8, 2, 0}, {9, 1, 0}, {-1, 1, 0}, {0, -1, 0}, {math.MaxInt, 1, 0}} {
		if sum, ok := audit.Worths(l, c.operator, c.strategy); sum != of(c.want) || !ok {
			t.Error(c, sum, ok)
		}
	}
	waits := func(strategy int, want uint64) {
		t.Helper()
		if sum, ok := audit.Waits(l, strategy); sum != of(want) || !ok {
			t.Error(strategy, sum, ok)
		}
	}
	waits(1, 25)
	waits(2, 0)
	waits(-1, 0)
	l.Tick(5)
	run(t, l, tx.Slash, 9, []int{0, 8, 1}, half)
	waits(1, 22)
	l.Tick(1)
	run(t, l, tx.Slash, 9, []int{0, 8, 1}, half)
	waits(1, 22) // its wait is over: it is slashed no more
	run(t, l, tx.Complete, 7, []int{1, 0})
	waits(1, 10)
	cell.SetAmount(l.Store(), keys.Key(17, 2), huge)
	cell.SetAmount(l.Store(), keys.Key(17, 99), huge)
	waits2, ok := audit.Waits(l, 1)
	if waits2 != huge || !ok {
		t.Error("one great withdrawal", ok)
	}
	cell.SetRow(l.Store(), keys.Key(15, 99), []int{10, 0, 1, 1})
	if sum, ok := audit.Waits(l, 1); sum != (api.U{}) || ok {
		t.Error("a sum beyond the end", sum, ok)
	}
}

// TestWrong turns entries of a ledger, one by one.
func TestWrong(t *testing.T) {
	x := alloc.Id{Operator: 8, Strategy: 1, Service: 9}
	set := func(key string, a uint64) func(*store.Store) {
		return func(s *store.Store) { cell.SetAmount(s, key, of(a)) }
	}
	for i, c := range []struct {
		want int
		turn func(*store.Store)
	}{
		{audit.Supply, set(bank.Account(1, 7), 901)}, {audit.Supply, set(bank.Supply(1), 1999)}, {audit.Supply, set(bank.Sink(1), 0)}, {audit.Supply, set(bank.Stock(1, 2), 1)}, {audit.Supply, set(bank.Pool(2), 41)},
		{audit.Supply, func(s *store.Store) { cell.SetAmount(s, bank.Account(1, 99), huge) }},
		{audit.Fine, set(bank.Account(5, 7), 5)}, // a token without a supply
		{audit.Shares, set(keys.Key(12, 8, 1), 61)}, {audit.Shares, set(keys.Key(12, 0, 1), 19)}, {audit.Shares, set(keys.Key(19, 1), 24)}, {audit.Shares, set(keys.Key(7, 1), 106)},
		{audit.Shares, set(keys.Key(7, 2), 1)}, {audit.Shares, func(s *store.Store) { cell.SetAmount(s, keys.Key(12, 8, 1), huge) }},
		{audit.Stock, func(s *store.Store) {
			cell.SetAmount(s, bank.Stock(1, 1), of(104))
			cell.SetAmount(s, bank.Account(1, 7), of(901))
		}},
		{audit.Part, set(keys.Key(10, 7, 1), 82)}, {audit.Part, set(keys.Key(10, 10, 1), 21)}, {audit.Part, set(keys.Key(11, 7, 1), 1_100_000_000_000_000_000)}, {audit.Part, set(keys.Key(10, 8, 1), 5)},
		{audit.Part, func(s *store.Store) {
			cell.SetAmount(s, keys.Key(12, 8, 1), of(50))
			cell.SetAmount(s, keys.Key(12, 0, 1), of(30))
		}},
		{audit.Fine, set(keys.Key(10, 7, 1), 79)},
		{audit.Left, set(keys.Key(17, 1), 40)}, {audit.Left, set(keys.Key(17, 2), 11)}, {audit.Left, set(keys.Key(18, 1), 900_000_000_000_000_000)}, {audit.Fine, set(keys.Key(17, 1), 5)},
		{audit.Sum, set(keys.Key(32, 8, 1), half/2+1)}, {audit.Sum, set(keys.Key(29, 8, 1, 9, 0), half/2-1)}, {audit.Sum, set(keys.Key(29, 8, 1, 9, 1), 1)}, {audit.Sum, set(keys.Key(32, 8, 2), 1)},
		{audit.Sum, func(s *store.Store) {
			cell.SetRow(s, keys.Key(30, 8, 1, 9, 1), []int{1, 9})
			cell.SetAmount(s, keys.Key(31, 8, 1, 9, 1), of(1))
		}},
		{audit.Rewards, set(keys.Key(34, 1), 1)},
		{audit.Max, func(s *store.Store) {
			a := of(half + half/2 + 1)
			cell.SetAmount(s, keys.Key(32, 8, 1), a)
			cell.SetAmount(s, keys.Key(29, 8, 1, 9, 0), a)
		}},
		{audit.Max, func(s *store.Store) { history.Push(s, 13, []int{8, 1}, 5, of(2*half+1)) }},
		{audit.Roster, func(s *store.Store) { cell.SetInt(s, keys.Key(9, 11), 12) }}, {audit.Roster, func(s *store.Store) { cell.SetInt(s, keys.Key(9, 8), 0) }}, {audit.Roster, func(s *store.Store) { cell.SetInt(s, keys.Key(8, 11), 1) }},
		{audit.Roster, func(s *store.Store) { cell.SetInt(s, keys.Key(8, 8), 0) }},
		{audit.Rewards, set(keys.Key(34, 2), 41)}, {audit.Rewards, set(keys.Key(35, 2), 1)}, {audit.Rewards, func(s *store.Store) { cell.SetAmount(s, keys.Key(35, 2), huge) }},
		// The first thing that is wrong is told.
		{audit.Supply, func(s *store.Store) {
			cell.SetAmount(s, bank.Pool(2), of(39))
			cell.SetInt(s, keys.Key(8, 11), 1)
			cell.SetAmount(s, x2(x), of(1))
		}},
		{audit.Sum, func(s *store.Store) {
			cell.SetInt(s, keys.Key(8, 11), 1)
			cell.SetAmount(s, x2(x), wad.Most())
		}},
	} {
		l := played(t)
		c.turn(l.Store())
		before := l.Store().All()
		if got := audit.Check(l); got != c.want || !slices.Equal(before, l.Store().All()) {
			t.Errorf("%d: %s, want %s", i, audit.Name(got), audit.Name(c.want))
		}
	}
}

// x2 tells where it stands what is encumbered by a set's strategy.
func x2(x alloc.Id) string { return keys.Key(32, x.Operator, x.Strategy) }
