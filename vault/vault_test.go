package vault_test

import (
	"math"
	"math/rand"
	"slices"
	"testing"

	"tallage/api"
	"tallage/bank"
	"tallage/cell"
	"tallage/keys"
	"tallage/rate"
	"tallage/store"
	"tallage/u256"
	"tallage/vault"
	"tallage/wad"
)

var huge = api.U{math.MaxUint64, math.MaxUint64, math.MaxUint64, math.MaxUint64}

func of(n uint64) api.U { return u256.Of(n) }

// filled tells a store in which the account 7 has tokens, and strategy 1 is there.
func filled(t *testing.T) *store.Store {
	t.Helper()
	s := store.New()
	bank.Mint(s, 1, 7, of(1_000_000))
	if n, e := vault.New(s, 1); n != 1 || e != api.OK {
		t.Fatal("New", n, e)
	}
	return s
}

func TestNew(t *testing.T) {
	s := store.New()
	for _, token := range []int{0, -1, 1001, math.MinInt, math.MaxInt} {
		if n, e := vault.New(s, token); n != 0 || e != api.ErrArg || s.Mark() != 0 {
			t.Error(token, n, e)
		}
	}
	for want := 1; want <= api.MaxStrategy; want++ {
		token := 1000 - want*30
		if n, e := vault.New(s, token); n != want || e != api.OK || vault.Count(s) != want {
			t.Error(want, n, e)
		}
		if got, allowed, ok := vault.Info(s, want); got != token || !allowed || !ok {
			t.Error("Info", got, allowed, ok)
		}
	}
	mark := s.Mark()
	if n, e := vault.New(s, 1); n != 0 || e != api.ErrFull || s.Mark() != mark {
		t.Error("a strategy too many", n, e)
	}
	if n, e := vault.New(s, 0); n != 0 || e != api.ErrArg {
		t.Error("ErrArg comes ahead of ErrFull", n, e)
	}
	want := []api.Pair{{Key: keys.Key(5), Value: keys.Num(2)}, {Key: keys.Key(5, 1), Value: keys.Num(9) + keys.Num(0)}, {Key: keys.Key(5, 2), Value: keys.Num(8) + keys.Num(1)}}
	s = store.New()
	vault.New(s, 9)
	vault.New(s, 8)
	vault.Allow(s, 1, false)
	if got := s.All(); !slices.Equal(got, want) {
		t.Errorf("%q", got)
	}
}

func TestTokens(t *testing.T) {
	s := store.New()
	for i, token := range []int{1, api.MaxToken} {
		if n, e := vault.New(s, token); n != i+1 || e != api.OK {
			t.Error(token, n, e)
		}
	}
}

func TestAllow(t *testing.T) {
	s := filled(t)
	for _, strategy := range []int{0, 2, -1, math.MinInt, math.MaxInt} {
		mark := s.Mark()
		if e := vault.Allow(s, strategy, true); e != api.ErrNone || s.Mark() != mark {
			t.Error(strategy, e)
		}
		if token, allowed, ok := vault.Info(s, strategy); token != 0 || allowed || ok {
			t.Error("Info", strategy)
		}
		if vault.Total(s, strategy) != (api.U{}) || vault.Stock(s, strategy) != (api.U{}) || vault.Worth(s, strategy, of(5)) != (api.U{}) {
			t.Error("something is there", strategy)
		}
	}
	if vault.Allow(s, 1, false) != api.OK {
		t.Error("Allow")
	}
	if token, allowed, ok := vault.Info(s, 1); token != 1 || allowed || !ok {
		t.Error("Info")
	}
	if a, e := vault.Deposit(s, 1, 0, huge); e != api.ErrState || a != (api.U{}) {
		t.Error("Deposit where it is not allowed", e)
	}
	if e := vault.Donate(s, 1, 7, of(5)); e != api.OK {
		t.Error("Donate where deposits are not allowed", e)
	}
	if vault.Allow(s, 1, true) != api.OK {
		t.Error("Allow")
	}
	if _, e := vault.Deposit(s, 1, 7, of(5)); e != api.OK {
		t.Error("Deposit", e)
	}
}

func TestExample(t *testing.T) {
	s := filled(t)
	if a, e := vault.Deposit(s, 1, 7, of(100)); a != of(100) || e != api.OK {
		t.Fatal("Deposit", a, e)
	}
	if e := vault.Donate(s, 1, 7, of(1100)); e != api.OK {
		t.Fatal("Donate", e)
	}
	if vault.Worth(s, 1, of(100)) != of(200) || vault.Total(s, 1) != of(100) || vault.Stock(s, 1) != of(1200) || bank.Balance(s, 1, 7) != of(998_800) {
		t.Error("amounts")
	}
	if cell.Amount(s, keys.Key(7, 1)) != of(100) || cell.Amount(s, bank.Stock(1, 1)) != of(1200) {
		t.Errorf("%q", s.All())
	}
	if a, e := vault.Redeem(s, 1, 8, of(50)); a != of(100) || e != api.OK || bank.Balance(s, 1, 8) != of(100) || vault.Total(s, 1) != of(50) || vault.Stock(s, 1) != of(1100) {
		t.Error("Redeem", a, e)
	}
	if a, e := vault.Burn(s, 1, of(20)); a != of(40) || e != api.OK || cell.Amount(s, bank.Sink(1)) != of(40) || vault.Total(s, 1) != of(30) || vault.Stock(s, 1) != of(1060) {
		t.Error("Burn", a, e)
	}
}

func TestDepositErrors(t *testing.T) {
	s := filled(t)
	over, _ := u256.Add(wad.Most(), of(1))
	mark := s.Mark()
	for _, c := range []struct {
		strategy, from int
		a              api.U
		e              api.Errno
	}{
		{2, 0, huge, api.ErrNone}, {0, 7, of(1), api.ErrNone}, {-1, 7, of(1), api.ErrNone}, {1, 0, of(1), api.ErrArg}, {1, -1, of(1), api.ErrArg}, {1, api.MaxAccount + 1, of(1), api.ErrArg},
		{1, 7, over, api.ErrArg}, {1, 7, huge, api.ErrArg}, {1, 7, api.U{}, api.ErrArg}, {1, 7, of(1_000_001), api.ErrFunds}, {1, 8, of(1), api.ErrFunds},
	} {
		if a, e := vault.Deposit(s, c.strategy, c.from, c.a); e != c.e || a != (api.U{}) || s.Mark() != mark {
			t.Errorf("%v: %v", c, e)
		}
	}
	vault.Donate(s, 1, 7, of(5000))
	if a, e := vault.Deposit(s, 1, 7, of(5)); e != api.ErrArg || a != (api.U{}) {
		t.Error("tokens that buy no share", a, e)
	}
	if a, e := vault.Deposit(s, 1, 7, of(6)); e != api.OK || a != of(1) {
		t.Error("tokens that buy one share", a, e)
	}
	// Where the shares can't be told, the tokens stay, too.
	cell.SetAmount(s, keys.Key(7, 1), wad.Most())
	mark = s.Mark()
	if a, e := vault.Deposit(s, 1, 7, of(6)); e != api.ErrOver || a != (api.U{}) || s.Mark() != mark {
		t.Error("too many shares", a, e)
	}
	cell.SetAmount(s, bank.Stock(1, 1), wad.Most())
	mark = s.Mark()
	if a, e := vault.Deposit(s, 1, 7, of(6)); e != api.ErrOver || a != (api.U{}) || s.Mark() != mark {
		t.Error("too many tokens", a, e)
	}
}

func TestDonateErrors(t *testing.T) {
	s := filled(t)
	mark := s.Mark()
	for _, c := range []struct {
		strategy, from int
		a              api.U
		e              api.Errno
	}{{2, 0, of(1), api.ErrNone}, {1, 0, of(1), api.ErrArg}, {1, api.MaxAccount + 1, of(1), api.ErrArg}, {1, 7, of(1_000_001), api.ErrFunds}, {1, 7, huge, api.ErrFunds}, {1, 8, of(1), api.ErrFunds}, {1, 7, api.U{}, api.OK}} {
		if e := vault.Donate(s, c.strategy, c.from, c.a); e != c.e || s.Mark() != mark {
			t.Errorf("%v: %v", c, e)
		}
	}
}

func TestSellErrors(t *testing.T) {
	s := filled(t)
	vault.Deposit(s, 1, 7, of(100))
	mark := s.Mark()
	for _, c := range []struct {
		strategy, to int
		shares       api.U
		e            api.Errno
	}{{2, 0, huge, api.ErrNone}, {1, 0, huge, api.ErrArg}, {1, -5, of(1), api.ErrArg}, {1, api.MaxAccount + 1, of(1), api.ErrArg}, {1, 7, of(101), api.ErrFunds}, {1, 7, huge, api.ErrFunds}} {
		if a, e := vault.Redeem(s, c.strategy, c.to, c.shares); e != c.e || a != (api.U{}) || s.Mark() != mark {
			t.Errorf("Redeem %v: %v", c, e)
		}
	}
	for _, c := range []struct {
		strategy int
		shares   api.U
		e        api.Errno
	}{{2, huge, api.ErrNone}, {-1, of(1), api.ErrNone}, {1, of(101), api.ErrFunds}, {1, api.U{}, api.OK}} {
		if a, e := vault.Burn(s, c.strategy, c.shares); e != c.e || a != (api.U{}) || s.Mark() != mark {
			t.Errorf("Burn %v: %v", c, e)
		}
	}
	cell.SetAmount(s, bank.Account(1, 8), wad.Most())
	mark = s.Mark()
	if a, e := vault.Redeem(s, 1, 8, of(1)); e != api.ErrOver || a != (api.U{}) || s.Mark() != mark {
		t.Error("an account that has the most", a, e)
	}
	if a, e := vault.Redeem(s, 1, 8, of(101)); e != api.ErrFunds || a != (api.U{}) || s.Mark() != mark {
		t.Error("ErrFunds comes ahead of ErrOver", a, e)
	}
	if a, e := vault.Redeem(s, 1, 8, api.U{}); e != api.OK || a != (api.U{}) || s.Mark() != mark {
		t.Error("no shares", a, e)
	}
	if a, e := vault.Redeem(s, 1, 7, of(100)); e != api.OK || a != of(100) || vault.Total(s, 1) != (api.U{}) {
		t.Error("all shares", a, e)
	}
	s.Undo(mark)
	if a, e := vault.Burn(s, 1, of(100)); e != api.OK || a != of(100) || vault.Total(s, 1) != (api.U{}) {
		t.Error("all shares", a, e)
	}
	s.Undo(mark)
	cell.SetAmount(s, bank.Stock(1, 1), huge)
	vault.Redeem(s, 1, 7, of(1))
	vault.Burn(s, 1, of(1))
	if vault.Worth(s, 1, of(1)) != (api.U{}) {
		t.Error("a stock that may not be")
	}
}

// TestTrades: shares are at most the stock, and tokens stay as many in all.
func TestTrades(t *testing.T) {
	r := rand.New(rand.NewSource(1))
	s := store.New()
	for account := 7; account < 10; account++ {
		bank.Mint(s, 1, account, api.U{r.Uint64(), r.Uint64() >> 3})
	}
	vault.New(s, 1)
	vault.New(s, 1)
	for range 4000 {
		a := api.U{r.Uint64() >> uint(r.Intn(64)), r.Uint64() >> uint(r.Intn(64)) * uint64(r.Intn(2))}
		strategy, account := 1+r.Intn(2), 7+r.Intn(3)
		stock, total := vault.Stock(s, strategy), vault.Total(s, strategy)
		switch r.Intn(5) {
		case 0, 1:
			want, _ := rate.Shares(stock, total, a)
			if got, e := vault.Deposit(s, strategy, account, a); e == api.OK && got != want {
				t.Fatal("Deposit", got, want)
			}
		case 2:
			vault.Donate(s, strategy, account, a)
		case 3:
			want, _ := rate.Tokens(stock, total, a)
			if worth := vault.Worth(s, strategy, a); worth != want {
				t.Fatal("Worth", worth, want)
			}
			if got, e := vault.Redeem(s, strategy, account, a); e == api.OK && got != want {
				t.Fatal("Redeem", got, want)
			}
		case 4:
			vault.Burn(s, strategy, a)
		}
		for strategy := 1; strategy <= 2; strategy++ {
			if !rate.Good(vault.Stock(s, strategy), vault.Total(s, strategy)) {
				t.Fatal("more shares than tokens")
			}
		}
		if sum, _ := bank.Total(s, 1); sum != cell.Amount(s, bank.Supply(1)) {
			t.Fatal("tokens are gone")
		}
	}
}

func TestNoStore(t *testing.T) {
	for _, s := range []*store.Store{nil, {}} {
		n, e := vault.New(s, 1)
		if n != 0 || e != api.ErrMade {
			t.Error("New", n, e)
		}
		if n, e := vault.New(s, 0); n != 0 || e != api.ErrMade {
			t.Error("New", n, e)
		}
		a, e1 := vault.Deposit(s, 1, 7, of(1))
		b, e2 := vault.Redeem(s, 1, 7, of(1))
		c, e3 := vault.Burn(s, 1, of(1))
		if e1 != api.ErrNone || e2 != api.ErrNone || e3 != api.ErrNone || vault.Allow(s, 1, true) != api.ErrNone || vault.Donate(s, 1, 7, of(1)) != api.ErrNone || a != b || b != c || c != (api.U{}) {
			t.Error("errors")
		}
		token, allowed, ok := vault.Info(s, 1)
		if token != 0 || allowed || ok || vault.Count(s) != 0 || vault.Total(s, 1) != (api.U{}) || vault.Stock(s, 1) != (api.U{}) || vault.Worth(s, 1, of(1)) != (api.U{}) {
			t.Error("something is there")
		}
	}
}
