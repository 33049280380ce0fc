package deleg_test

import (
	"math"
	"math/rand"
	"slices"
	"testing"

	"tallage/api"
	"tallage/bank"
	"tallage/cell"
	"tallage/deleg"
	"tallage/exit"
	"tallage/holding"
	"tallage/keys"
	"tallage/magn"
	"tallage/roster"
	"tallage/store"
	"tallage/u256"
	"tallage/vault"
	"tallage/wad"
)

const (
	half  = 500_000_000_000_000_000
	delay = 5
)

func of(n uint64) api.U { return u256.Of(n) }

// filled tells a store with strategies 1 to 3 of token 1, of which the accounts
// 5 to 9 have a million each; 8 and 9 are operators.
func filled(t *testing.T) *store.Store {
	t.Helper()
	s := store.New()
	for account := 5; account <= 9; account++ {
		bank.Mint(s, 1, account, of(1_000_000))
	}
	for range 3 {
		vault.New(s, 1)
	}
	if deleg.Operator(s, 8) != api.OK || deleg.Operator(s, 9) != api.OK {
		t.Fatal("Operator")
	}
	return s
}

func deposit(t *testing.T, s *store.Store, staker, strategy int, a uint64) {
	t.Helper()
	if shares, e := deleg.Deposit(s, staker, strategy, of(a)); e != api.OK || shares != of(a) {
		t.Fatal("Deposit", shares, e)
	}
}

// slash lowers an operator's magnitude, and what hangs on it.
func slash(t *testing.T, s *store.Store, operator, strategy, block int, a api.U) {
	t.Helper()
	from, to, e := magn.Cut(s, operator, strategy, block, a)
	if e != api.OK {
		t.Fatal(e)
	}
	less, e := holding.Cut(s, operator, strategy, to, from)
	waits, f := exit.Cut(s, operator, strategy, block, delay, to, from)
	sum, _ := u256.Add(less, waits)
	_, g := vault.Burn(s, strategy, sum)
	if e != api.OK || f != api.OK || g != api.OK {
		t.Fatal(e, f, g)
	}
}

// adds holds all Parts, and what is left, against the shares.
func adds(t *testing.T, s *store.Store) {
	t.Helper()
	for strategy := 1; strategy <= 3; strategy++ {
		sum := exit.Left(s, strategy)
		for operator := range 10 {
			sum, _ = u256.Add(sum, holding.Part(s, operator, strategy))
		}
		if sum != vault.Total(s, strategy) {
			t.Fatalf("strategy %d: %v, of %v shares", strategy, sum, vault.Total(s, strategy))
		}
	}
}

func TestExample(t *testing.T) {
	s := filled(t)
	deposit(t, s, 5, 1, 100)
	id, e := deleg.Exit(s, 5, 1, of(40), 3)
	if id != 1 || e != api.OK || deleg.Worth(s, 5, 1) != of(60) {
		t.Fatal("Exit", id, e)
	}
	if end, m, ok := deleg.Ends(s, id, delay); end != 8 || m != wad.One() || !ok {
		t.Error("Ends", end, m, ok)
	}
	mark := s.Mark()
	if pays, tokens, e := deleg.Complete(s, id, 8, delay, true); e != api.ErrState || pays != (api.U{}) || tokens != (api.U{}) || s.Mark() != mark {
		t.Error("ahead of its time", e)
	}
	if pays, tokens, e := deleg.Complete(s, id, 9, delay, true); e != api.OK || pays != of(40) || tokens != of(40) || bank.Balance(s, 1, 5) != of(999_940) {
		t.Error("Complete", pays, tokens, e)
	}
	if _, _, e := deleg.Complete(s, id, 9, delay, true); e != api.ErrNone {
		t.Error("twice", e)
	}
	adds(t, s)
}

func TestDeposit(t *testing.T) {
	s := filled(t)
	deleg.Delegate(s, 5, 8)
	slash(t, s, 8, 1, 1, of(half))
	deposit(t, s, 5, 1, 100)
	deposit(t, s, 6, 1, 100)
	if deleg.Max(s, 5, 1) != of(half) || deleg.Max(s, 6, 1) != wad.One() || deleg.Max(s, 5, 2) != wad.One() || deleg.Worth(s, 5, 1) != of(100) || holding.Part(s, 8, 1) != of(100) || holding.Part(s, 0, 1) != of(100) {
		t.Error("amounts")
	}
	vault.Allow(s, 2, false)
	slash(t, s, 8, 3, 1, wad.One())
	mark := s.Mark()
	for _, c := range []struct {
		staker, strategy int
		a                api.U
		e                api.Errno
	}{
		{5, 4, of(1), api.ErrNone}, {5, 2, of(1), api.ErrState}, {0, 1, of(1), api.ErrArg}, {-1, 1, of(1), api.ErrArg}, {5, 1, api.U{}, api.ErrArg}, {5, 1, of(2_000_000), api.ErrFunds},
		{5, 3, of(1), api.ErrSlashed},
	} {
		if shares, e := deleg.Deposit(s, c.staker, c.strategy, c.a); e != c.e || shares != (api.U{}) || s.Mark() != mark {
			t.Errorf("%v: %v %v", c, shares, e)
		}
	}
	adds(t, s)
}

func TestOperator(t *testing.T) {
	s := filled(t)
	deposit(t, s, 5, 1, 100)
	deposit(t, s, 5, 3, 50)
	if e := deleg.Operator(s, 5); e != api.OK || roster.Of(s, 5) != 5 || holding.Part(s, 5, 1) != of(100) || holding.Part(s, 5, 3) != of(50) || holding.Part(s, 0, 1) != (api.U{}) {
		t.Error("Operator", e)
	}
	deleg.Delegate(s, 6, 5)
	mark := s.Mark()
	for _, c := range []struct {
		account int
		e       api.Errno
	}{{0, api.ErrArg}, {5, api.ErrExists}, {6, api.ErrState}} {
		if e := deleg.Operator(s, c.account); e != c.e || s.Mark() != mark {
			t.Error(c, e)
		}
	}
	// A deposit that is worth nothing can't be moved: nobody becomes an operator.
	deposit(t, s, 7, 1, 100)
	deposit(t, s, 7, 2, 1)
	cell.SetAmount(s, keys.Key(11, 7, 2), of(1))
	mark = s.Mark()
	if e := deleg.Operator(s, 7); e != api.ErrOver || s.Mark() != mark || roster.Is(s, 7) {
		t.Error("half an operator", e)
	}
	if e := deleg.Delegate(s, 7, 8); e != api.ErrOver || s.Mark() != mark || roster.Of(s, 7) != 0 {
		t.Error("half a choice", e)
	}
}

func TestDelegate(t *testing.T) {
	s := filled(t)
	deposit(t, s, 5, 1, 100)
	deposit(t, s, 5, 2, 200)
	slash(t, s, 8, 2, 1, of(half))
	slash(t, s, 9, 2, 1, wad.One())
	mark := s.Mark()
	for _, c := range []struct {
		staker, operator int
		e                api.Errno
	}{{0, 8, api.ErrArg}, {5, 7, api.ErrNone}, {8, 9, api.ErrState}, {5, 9, api.ErrSlashed}} {
		if e := deleg.Delegate(s, c.staker, c.operator); e != c.e || s.Mark() != mark {
			t.Error(c, e)
		}
	}
	if e := deleg.Delegate(s, 5, 8); e != api.OK || deleg.Worth(s, 5, 1) != of(100) || deleg.Worth(s, 5, 2) != of(200) || holding.Part(s, 8, 2) != of(200) {
		t.Error("Delegate", e)
	}
	slash(t, s, 8, 2, 2, of(half/2))
	if deleg.Worth(s, 5, 2) != of(100) || deleg.Worth(s, 5, 1) != of(100) {
		t.Error("behind a slash", deleg.Worth(s, 5, 2))
	}
	adds(t, s)
}

func TestUndelegate(t *testing.T) {
	s := filled(t)
	deposit(t, s, 5, 3, 300)
	deposit(t, s, 5, 1, 100)
	deleg.Delegate(s, 5, 8)
	slash(t, s, 8, 1, 1, of(half))
	if e := deleg.Delegate(s, 6, 8); e != api.OK {
		t.Fatal(e)
	}
	mark := s.Mark()
	for _, c := range []struct {
		staker, block int
		e             api.Errno
	}{{7, 2, api.ErrNone}, {0, 2, api.ErrNone}, {8, 2, api.ErrState}, {5, -1, api.ErrArg}, {5, api.MaxBlock + 1, api.ErrArg}} {
		if ids, e := deleg.Undelegate(s, c.staker, c.block); e != c.e || len(ids) != 0 || s.Mark() != mark {
			t.Error(c, ids, e)
		}
	}
	ids, e := deleg.Undelegate(s, 5, 2)
	if !slices.Equal(ids, []int{1, 2}) || e != api.OK || roster.Of(s, 5) != 0 || len(holding.Strategies(s, 5)) != 0 {
		t.Fatal("Undelegate", ids, e)
	}
	for i, want := range []exit.Exit{{Staker: 5, Operator: 8, Strategy: 1, Block: 2, Worth: of(50), Max: of(half)}, {Staker: 5, Operator: 8, Strategy: 3, Block: 2, Worth: of(300), Max: wad.One()}} {
		if got, ok := exit.Get(s, ids[i]); !ok || got != want {
			t.Errorf("%+v", got)
		}
	}
	if ids, e := deleg.Undelegate(s, 6, 2); len(ids) != 0 || e != api.OK || roster.Of(s, 6) != 0 {
		t.Error("without deposits", ids, e)
	}
	adds(t, s)
}

// TestFull: where one of the withdrawals finds no room, none is made.
func TestFull(t *testing.T) {
	s := filled(t)
	deposit(t, s, 5, 1, 100)
	deposit(t, s, 5, 2, 100)
	deleg.Delegate(s, 5, 8)
	for range api.MaxExits - 1 {
		if _, e := deleg.Exit(s, 5, 1, of(1), 1); e != api.OK {
			t.Fatal(e)
		}
	}
	mark := s.Mark()
	if ids, e := deleg.Undelegate(s, 5, 2); e != api.ErrFull || len(ids) != 0 || s.Mark() != mark {
		t.Error("Undelegate", ids, e)
	}
	if ids, e := deleg.Redelegate(s, 5, 9, 2); e != api.ErrFull || len(ids) != 0 || s.Mark() != mark {
		t.Error("Redelegate", ids, e)
	}
	if _, e := deleg.Exit(s, 5, 1, of(1), 1); e != api.OK {
		t.Error(e)
	}
	mark = s.Mark()
	if id, e := deleg.Exit(s, 5, 1, of(1), 1); e != api.ErrFull || id != 0 || s.Mark() != mark {
		t.Error("Exit", id, e)
	}
}

func TestRedelegate(t *testing.T) {
	s := filled(t)
	deposit(t, s, 5, 1, 100)
	deleg.Delegate(s, 5, 8)
	mark := s.Mark()
	for _, c := range []struct {
		staker, operator int
		e                api.Errno
	}{{7, 8, api.ErrNone}, {8, 9, api.ErrState}, {5, 7, api.ErrNone}, {5, 0, api.ErrNone}} {
		if ids, e := deleg.Redelegate(s, c.staker, c.operator, 2); e != c.e || len(ids) != 0 || s.Mark() != mark {
			t.Error(c, ids, e)
		}
	}
	ids, e := deleg.Redelegate(s, 5, 9, 2)
	if !slices.Equal(ids, []int{1}) || e != api.OK || roster.Of(s, 5) != 9 || exit.Left(s, 1) != of(100) {
		t.Fatal("Redelegate", ids, e)
	}
	slash(t, s, 9, 1, 3, of(half))
	if pays, tokens, e := deleg.Complete(s, 1, 8, delay, false); e != api.OK || pays != of(100) || tokens != (api.U{}) {
		t.Fatal("Complete", pays, tokens, e)
	}
	if deleg.Worth(s, 5, 1) != of(100) || holding.Deposit(s, 5, 1) != of(100) || holding.Factor(s, 5, 1) != of(4*half) || holding.Part(s, 9, 1) != of(100) {
		t.Error("as shares, behind the operator of now")
	}
	adds(t, s)
}

func TestExitErrors(t *testing.T) {
	s := filled(t)
	deposit(t, s, 5, 1, 100)
	mark := s.Mark()
	for _, c := range []struct {
		staker, strategy int
		x                api.U
		block            int
		e                api.Errno
	}{
		{0, 1, of(1), 3, api.ErrArg}, {-5, 1, of(101), 3, api.ErrArg}, {api.MaxAccount + 1, 1, of(1), 3, api.ErrArg}, {5, 1, api.U{}, 3, api.ErrArg}, {5, 1, of(101), -3, api.ErrFunds}, {5, 2, of(1), 3, api.ErrFunds},
		{5, -1, of(1), 3, api.ErrFunds}, {5, 1, of(1), -1, api.ErrArg}, {5, 1, of(1), api.MaxBlock + 1, api.ErrArg},
	} {
		if id, e := deleg.Exit(s, c.staker, c.strategy, c.x, c.block); e != c.e || id != 0 || s.Mark() != mark {
			t.Errorf("%v: %d %v", c, id, e)
		}
	}
}

func TestEnds(t *testing.T) {
	s := filled(t)
	deposit(t, s, 5, 1, 100)
	deleg.Delegate(s, 5, 8)
	deposit(t, s, 6, 1, 100)
	slash(t, s, 8, 1, 2, of(half))
	id, _ := deleg.Exit(s, 5, 1, of(50), 3)
	free, _ := deleg.Exit(s, 6, 1, of(50), 3)
	slash(t, s, 8, 1, 8, of(half/2))
	slash(t, s, 8, 1, 9, of(half/2))
	for _, c := range []struct {
		id, delay, end int
		m              api.U
		ok             bool
	}{
		{id, 4, 7, of(half), true}, {id, 5, 8, of(half / 2), true}, {id, 6, 9, api.U{}, true}, {id, 0, 3, of(half), true}, {free, 6, 9, wad.One(), true}, {id, api.MaxBlock, api.MaxBlock + 3, api.U{}, true},
		{id, -1, 0, api.U{}, false}, {id, api.MaxBlock + 1, 0, api.U{}, false}, {id, math.MaxInt, 0, api.U{}, false}, {id, math.MinInt, 0, api.U{}, false}, {0, 5, 0, api.U{}, false}, {3, 5, 0, api.U{}, false}, {-1, 5, 0, api.U{}, false},
	} {
		if end, m, ok := deleg.Ends(s, c.id, c.delay); end != c.end || m != c.m || ok != c.ok {
			t.Errorf("%v: %d %v %v", c, end, m, ok)
		}
	}
	mark := s.Mark()
	for _, c := range []struct {
		id, block, delay int
		e                api.Errno
	}{{0, 9, 5, api.ErrNone}, {id, 8, 5, api.ErrState}, {id, -1, 5, api.ErrState}, {id, math.MinInt, 5, api.ErrState}} {
		pays, tokens, e := deleg.Complete(s, c.id, c.block, c.delay, true)
		if e != c.e || pays != (api.U{}) || tokens != (api.U{}) || s.Mark() != mark {
			t.Errorf("%v: %v", c, e)
		}
	}
	if pays, tokens, e := deleg.Complete(s, id, 9, delay, true); e != api.OK || pays != of(12) || tokens != of(12) {
		t.Error("slashed while it waited", pays, tokens, e)
	}
	adds(t, s)
}

// TestLast: a withdrawal of the last block has an end, too.
func TestLast(t *testing.T) {
	s := filled(t)
	deposit(t, s, 5, 1, 100)
	id, e := deleg.Exit(s, 5, 1, of(100), api.MaxBlock)
	if e != api.OK {
		t.Fatal(e)
	}
	if end, m, ok := deleg.Ends(s, id, api.MaxBlock); end != 2*api.MaxBlock || m != wad.One() || !ok {
		t.Error("Ends", end, m, ok)
	}
}

// TestWrongEnd: what can't be paid out waits on.
func TestWrongEnd(t *testing.T) {
	s := filled(t)
	deposit(t, s, 5, 1, 100)
	id, _ := deleg.Exit(s, 5, 1, of(100), 3)
	deleg.Delegate(s, 5, 8)
	slash(t, s, 8, 1, 4, wad.One())
	mark := s.Mark()
	if pays, _, e := deleg.Complete(s, id, 9, delay, false); e != api.ErrSlashed || pays != (api.U{}) || s.Mark() != mark {
		t.Error("as shares of an operator that has nothing left", e)
	}
	cell.SetAmount(s, bank.Account(1, 5), wad.Most())
	mark = s.Mark()
	if pays, tokens, e := deleg.Complete(s, id, 9, delay, true); e != api.ErrOver || pays != (api.U{}) || tokens != (api.U{}) || s.Mark() != mark {
		t.Error("to an account that has the most", e)
	}
	cell.SetAmount(s, bank.Account(1, 5), api.U{})
	if pays, tokens, e := deleg.Complete(s, id, 9, delay, true); e != api.OK || pays != of(100) || tokens != of(100) {
		t.Error("Complete", pays, tokens, e)
	}
	deposit(t, s, 6, 1, 10)
	deleg.Delegate(s, 6, 9)
	id, _ = deleg.Exit(s, 6, 1, of(10), 10)
	slash(t, s, 9, 1, 11, wad.One())
	if pays, tokens, e := deleg.Complete(s, id, 16, delay, false); e != api.OK || pays != (api.U{}) || tokens != (api.U{}) || len(holding.Strategies(s, 6)) != 0 {
		t.Error("one that pays nothing", pays, tokens, e)
	}
	adds(t, s)
}

func TestAdds(t *testing.T) {
	for seed := range int64(20) {
		r := rand.New(rand.NewSource(seed))
		s := filled(t)
		for block := range 120 {
			staker, strategy := 5+r.Intn(5), 1+r.Intn(3)
			x := of(1 + r.Uint64()>>uint(44+r.Intn(20)))
			switch r.Intn(10) {
			case 0, 1, 2:
				deleg.Deposit(s, staker, strategy, x)
			case 3:
				deleg.Delegate(s, staker, 8+r.Intn(2))
			case 4:
				deleg.Undelegate(s, staker, block)
			case 5:
				deleg.Redelegate(s, staker, 8+r.Intn(2), block)
			case 6, 7:
				deleg.Exit(s, staker, strategy, u256.Min(x, holding.Deposit(s, staker, strategy)), block)
			case 8:
				for _, id := range exit.All(s) {
					deleg.Complete(s, id, block, delay, r.Intn(2) == 0)
				}
			case 9:
				operator := 8 + r.Intn(2)
				if part, _ := wad.Part(magn.Max(s, operator, strategy), of(r.Uint64()%half)); true {
					slash(t, s, operator, strategy, block, part)
				}
			}
			adds(t, s)
		}
	}
}

func TestNoStore(t *testing.T) {
	for _, s := range []*store.Store{nil, {}} {
		_, e1 := deleg.Deposit(s, 5, 1, of(1))
		_, e2 := deleg.Undelegate(s, 5, 1)
		_, e3 := deleg.Redelegate(s, 5, 8, 1)
		_, e4 := deleg.Exit(s, 5, 1, of(1), 1)
		_, e5 := deleg.Exit(s, 0, 1, of(1), 1)
		_, _, e6 := deleg.Complete(s, 1, 9, 5, true)
		if e1 != api.ErrNone || e2 != api.ErrMade || e3 != api.ErrMade || e4 != api.ErrFunds || e5 != api.ErrArg || e6 != api.ErrNone || deleg.Operator(s, 5) != api.ErrMade || deleg.Delegate(s, 5, 8) != api.ErrMade {
			t.Error("errors", e1, e2, e3, e4, e5, e6)
		}
		end, m, ok := deleg.Ends(s, 1, 5)
		if deleg.Max(s, 5, 1) != wad.One() || deleg.Worth(s, 5, 1) != (api.U{}) || end != 0 || m != (api.U{}) || ok {
			t.Error("something is there")
		}
	}
}
