package bank_test

import (
	"math"
	"math/rand"
	"testing"

	"tallage/api"
	"tallage/bank"
	"tallage/cell"
	"tallage/keys"
	"tallage/store"
	"tallage/u256"
	"tallage/wad"
)

var huge = api.U{math.MaxUint64, math.MaxUint64, math.MaxUint64, math.MaxUint64}

func TestPlaces(t *testing.T) {
	for _, c := range []struct{ got, want string }{
		{bank.Account(5, 7), keys.Key(1, 5, 7)}, {bank.Supply(5), keys.Key(2, 5)}, {bank.Sink(5), keys.Key(3, 5)},
		{bank.Pool(5), keys.Key(4, 5)}, {bank.Stock(5, 7), keys.Key(6, 5, 7)}, {bank.Account(-1, 7), ""}, {bank.Account(1, -7), ""},
		{bank.Supply(-1), ""}, {bank.Sink(math.MinInt), ""}, {bank.Pool(-1), ""}, {bank.Stock(1, -1), ""},
	} {
		if c.got != c.want {
			t.Errorf("%q, want %q", c.got, c.want)
		}
	}
	for _, c := range []struct {
		token, account int
		ok             bool
	}{{1, 1, true}, {1000, api.MaxAccount, true}, {0, 1, false}, {1001, 1, false}, {1, 0, false}, {1, api.MaxAccount + 1, false}, {-1, -1, false}, {math.MaxInt, math.MinInt, false}} {
		if bank.Good(c.token, c.account) != c.ok {
			t.Error(c)
		}
	}
}

func TestExample(t *testing.T) {
	s := store.New()
	if bank.Mint(s, 1, 7, u256.Of(100)) != api.OK || bank.Pay(s, 1, 7, 8, u256.Of(30)) != api.OK {
		t.Fatal("errors")
	}
	total, ok := bank.Total(s, 1)
	if bank.Balance(s, 1, 7) != u256.Of(70) || bank.Balance(s, 1, 8) != u256.Of(30) || total != u256.Of(100) || !ok || cell.Amount(s, bank.Supply(1)) != total {
		t.Error("amounts")
	}
	if s.Len() != 3 {
		t.Errorf("%q", s.All())
	}
}

func TestMint(t *testing.T) {
	s := store.New()
	over, _ := u256.Add(wad.Most(), u256.Of(1))
	for _, c := range []struct {
		token, to int
		a         api.U
		e         api.Errno
	}{
		{0, 7, u256.Of(1), api.ErrArg}, {1001, 7, u256.Of(1), api.ErrArg}, {1, 0, u256.Of(1), api.ErrArg}, {1, -7, u256.Of(1), api.ErrArg},
		{1, 7, over, api.ErrArg}, {1, 7, huge, api.ErrArg}, {1, 7, api.U{}, api.OK},
	} {
		if e := bank.Mint(s, c.token, c.to, c.a); e != c.e || s.Mark() != 0 {
			t.Errorf("%v: %v", c, e)
		}
	}
	if bank.Mint(s, 1, 7, wad.Most()) != api.OK {
		t.Error("the most")
	}
	mark := s.Mark()
	if bank.Mint(s, 1, 8, u256.Of(1)) != api.ErrOver || bank.Mint(s, 1, 7, u256.Of(1)) != api.ErrOver || s.Mark() != mark {
		t.Error("a supply above the most")
	}
	if bank.Mint(s, 2, 8, u256.Of(1)) != api.OK {
		t.Error("another token")
	}
	cell.SetAmount(s, bank.Account(3, 7), wad.Most())
	mark = s.Mark()
	if bank.Mint(s, 3, 7, u256.Of(1)) != api.ErrOver || s.Mark() != mark {
		t.Error("an account above the most")
	}
}

func TestPay(t *testing.T) {
	s := store.New()
	bank.Mint(s, 1, 7, u256.Of(10))
	mark := s.Mark()
	for _, c := range []struct {
		token, from, to int
		a               api.U
		e               api.Errno
	}{
		{0, 7, 8, u256.Of(1), api.ErrArg}, {1, 0, 8, u256.Of(1), api.ErrArg}, {1, 7, 0, u256.Of(1), api.ErrArg}, {1, 7, api.MaxAccount + 1, u256.Of(1), api.ErrArg},
		{1, 7, 8, u256.Of(11), api.ErrFunds}, {1, 8, 7, u256.Of(1), api.ErrFunds}, {2, 7, 8, u256.Of(1), api.ErrFunds}, {1, 7, 8, huge, api.ErrFunds},
		{1, 7, 7, u256.Of(11), api.ErrFunds}, {1, 7, 7, u256.Of(10), api.OK}, {1, 7, 8, api.U{}, api.OK},
	} {
		if e := bank.Pay(s, c.token, c.from, c.to, c.a); e != c.e || s.Mark() != mark {
			t.Errorf("%v: %v", c, e)
		}
	}
	cell.SetAmount(s, bank.Account(1, 8), wad.Most())
	if bank.Pay(s, 1, 7, 8, u256.Of(1)) != api.ErrOver || bank.Balance(s, 1, 7) != u256.Of(10) {
		t.Error("over")
	}
}

func TestTotal(t *testing.T) {
	s := store.New()
	places := []string{bank.Account(5, 1), bank.Account(5, api.MaxAccount), bank.Sink(5), bank.Pool(5), bank.Stock(5, 1), bank.Stock(5, 2)}
	for i, p := range places {
		cell.SetAmount(s, p, u256.Of(1<<i))
	}
	for _, p := range []string{bank.Account(4, 1), bank.Account(6, 1), bank.Supply(5), bank.Sink(6), bank.Pool(4), bank.Stock(6, 1), keys.Key(7, 5)} {
		cell.SetAmount(s, p, u256.Of(1000))
	}
	if total, ok := bank.Total(s, 5); !ok || total != u256.Of(63) {
		t.Error("Total", total, ok)
	}
	if total, ok := bank.Total(s, 999); !ok || total != (api.U{}) {
		t.Error("Total of nothing", total, ok)
	}
	for _, token := range []int{0, 1001, -1, math.MinInt, math.MaxInt} {
		if total, ok := bank.Total(s, token); ok || total != (api.U{}) {
			t.Error("Total", token, total, ok)
		}
	}
	cell.SetAmount(s, bank.Pool(5), huge)
	if total, ok := bank.Total(s, 5); ok || total != (api.U{}) {
		t.Error("Total beyond the end", total, ok)
	}
}

// TestSupply: whatever is minted and paid, Total is the supply.
func TestSupply(t *testing.T) {
	r := rand.New(rand.NewSource(1))
	s := store.New()
	for range 3000 {
		token := 1 + r.Intn(2)
		a := api.U{r.Uint64() >> uint(r.Intn(64)), r.Uint64() >> uint(r.Intn(64)) * uint64(r.Intn(2))}
		if r.Intn(4) == 0 {
			bank.Mint(s, token, 1+r.Intn(5), a)
		} else {
			bank.Pay(s, token, 1+r.Intn(5), 1+r.Intn(5), a)
		}
		if total, ok := bank.Total(s, token); !ok || total != cell.Amount(s, bank.Supply(token)) {
			t.Fatal(total, ok)
		}
	}
}

func TestNoStore(t *testing.T) {
	for _, s := range []*store.Store{nil, {}} {
		if bank.Mint(s, 1, 7, u256.Of(1)) != api.OK || bank.Mint(s, 0, 7, u256.Of(1)) != api.ErrArg || bank.Pay(s, 1, 7, 8, u256.Of(1)) != api.ErrFunds || bank.Pay(s, 1, 7, 8, api.U{}) != api.OK {
			t.Error("errors")
		}
		total, ok := bank.Total(s, 1)
		if bank.Balance(s, 1, 7) != (api.U{}) || total != (api.U{}) || !ok {
			t.Error("something is there")
		}
	}
}
