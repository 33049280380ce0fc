package pool_test

import (
	"math/rand"
	"testing"

	"tallage/api"
	"tallage/bank"
	"tallage/cell"
	"tallage/keys"
	"tallage/pool"
	"tallage/service"
	"tallage/store"
	"tallage/u256"
	"tallage/wad"
)

func of(n uint64) api.U { return u256.Of(n) }

// filled tells a store in which the service 9 has 1000 of token 1.
func filled(t *testing.T) *store.Store {
	t.Helper()
	s := store.New()
	service.Register(s, 9)
	if e := bank.Mint(s, 1, 9, of(1000)); e != api.OK {
		t.Fatal(e)
	}
	return s
}

func TestExample(t *testing.T) {
	s := filled(t)
	if pool.Submit(s, 9, 1, of(10)) != api.OK || pool.Pay(s, 1, 5, of(4)) != api.OK {
		t.Fatal("errors")
	}
	if pool.Left(s, 1) != of(6) || pool.Submitted(s, 1) != of(10) || pool.Paid(s, 1) != of(4) || bank.Balance(s, 1, 9) != of(990) || bank.Balance(s, 1, 5) != of(4) {
		t.Error("amounts")
	}
	if cell.Amount(s, keys.Key(34, 1)) != of(10) || cell.Amount(s, keys.Key(35, 1)) != of(4) || cell.Amount(s, keys.Key(4, 1)) != of(6) {
		t.Errorf("%q", s.All())
	}
	if pool.Left(s, 2) != (api.U{}) || pool.Submitted(s, 2) != (api.U{}) || pool.Paid(s, 2) != (api.U{}) || pool.Left(s, -1) != (api.U{}) || pool.Submitted(s, -1) != (api.U{}) || pool.Paid(s, -1) != (api.U{}) {
		t.Error("other tokens")
	}
}

func TestErrors(t *testing.T) {
	s := filled(t)
	pool.Submit(s, 9, 1, of(100))
	over, _ := u256.Add(wad.Most(), of(1))
	mark := s.Mark()
	for _, c := range []struct {
		service, token int
		a              api.U
		e              api.Errno
	}{
		{8, 0, api.U{}, api.ErrNone}, {0, 1, of(1), api.ErrNone}, {-9, 1, of(1), api.ErrNone}, {9, 0, of(1), api.ErrArg}, {9, 1001, of(1), api.ErrArg}, {9, -1, of(1), api.ErrArg},
		{9, 1, api.U{}, api.ErrArg}, {9, 1, over, api.ErrArg}, {9, 1, of(901), api.ErrFunds}, {9, 2, of(1), api.ErrFunds},
	} {
		if e := pool.Submit(s, c.service, c.token, c.a); e != c.e || s.Mark() != mark {
			t.Errorf("Submit %v: %v", c, e)
		}
	}
	for _, c := range []struct {
		token, to int
		a         api.U
		e         api.Errno
	}{
		{0, 5, of(1), api.ErrArg}, {1001, 5, of(1), api.ErrArg}, {1, 0, of(1), api.ErrArg}, {1, api.MaxAccount + 1, of(1), api.ErrArg}, {1, -5, of(1), api.ErrArg}, {1, 5, api.U{}, api.ErrArg},
		{1, 5, over, api.ErrArg}, {1, 5, of(101), api.ErrFunds}, {2, 5, of(1), api.ErrFunds},
	} {
		if e := pool.Pay(s, c.token, c.to, c.a); e != c.e || s.Mark() != mark {
			t.Errorf("Pay %v: %v", c, e)
		}
	}
	// Where the sums would be too great, the tokens stay, too.
	cell.SetAmount(s, keys.Key(34, 1), wad.Most())
	cell.SetAmount(s, keys.Key(35, 1), wad.Most())
	mark = s.Mark()
	if pool.Submit(s, 9, 1, of(1)) != api.ErrOver || pool.Pay(s, 1, 5, of(1)) != api.ErrOver || s.Mark() != mark {
		t.Error("sums above the most")
	}
	cell.SetAmount(s, bank.Pool(1), wad.Most())
	cell.SetAmount(s, bank.Account(1, 5), wad.Most())
	mark = s.Mark()
	if pool.Submit(s, 9, 1, of(1)) != api.ErrOver || pool.Pay(s, 1, 5, of(1)) != api.ErrOver || s.Mark() != mark {
		t.Error("places above the most")
	}
}

// TestSums: what was submitted was paid, or is left.
func TestSums(t *testing.T) {
	r := rand.New(rand.NewSource(1))
	s := filled(t)
	for range 2000 {
		if r.Intn(2) == 0 {
			pool.Submit(s, 9, 1, of(uint64(r.Intn(20))))
		} else {
			pool.Pay(s, 1, []int{5, 9}[r.Intn(2)], of(uint64(r.Intn(20))))
		}
		if sum, _ := u256.Add(pool.Paid(s, 1), pool.Left(s, 1)); sum != pool.Submitted(s, 1) {
			t.Fatal(sum, pool.Submitted(s, 1))
		}
		if total, _ := bank.Total(s, 1); total != of(1000) {
			t.Fatal(total)
		}
	}
}

func TestNoStore(t *testing.T) {
	for _, s := range []*store.Store{nil, {}} {
		if pool.Submit(s, 0, 0, api.U{}) != api.ErrMade || pool.Pay(s, 0, 0, api.U{}) != api.ErrMade {
			t.Error("errors")
		}
		if pool.Left(s, 1) != (api.U{}) || pool.Submitted(s, 1) != (api.U{}) || pool.Paid(s, 1) != (api.U{}) {
			t.Error("something is there")
		}
	}
}
