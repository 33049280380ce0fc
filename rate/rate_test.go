package rate_test

import (
	"math"
	"math/big"
	"math/rand"
	"testing"

	"tallage/api"
	"tallage/rate"
	"tallage/u256"
	"tallage/wad"
)

var (
	limit = new(big.Int).Lsh(big.NewInt(1), 256)
	huge  = api.U{math.MaxUint64, math.MaxUint64, math.MaxUint64, math.MaxUint64}
	over  = api.U{0, 0, 1}
)

func toBig(a api.U) *big.Int { return new(big.Int).SetBytes(u256.Bytes(a)) }

func fromBig(n *big.Int) api.U {
	a, _ := u256.FromBytes(n.FillBytes(make([]byte, 32)))
	return a
}

func amount(r *rand.Rand) api.U {
	switch r.Intn(8) {
	case 0:
		return api.U{}
	case 1:
		return wad.Most()
	}
	return api.U{r.Uint64() >> uint(r.Intn(64)), r.Uint64() >> uint(r.Intn(64)) * uint64(r.Intn(2))}
}

// check holds a result against a times (x and 1000) divided by (y and 1000).
func check(t *testing.T, what string, got api.U, ok bool, a, x, y api.U) {
	t.Helper()
	n := new(big.Int)
	there := toBig(x).BitLen() <= 128 && toBig(y).BitLen() <= 128
	if there {
		virtual := big.NewInt(1000)
		n.Mul(toBig(a), new(big.Int).Add(toBig(x), virtual))
		n.Div(n, new(big.Int).Add(toBig(y), virtual))
		there = n.Cmp(limit) < 0
	}
	if ok != there || there && got != fromBig(n) || !there && got != (api.U{}) {
		t.Fatalf("%s(%v, %v, %v): %v %v, want %v %v", what, x, y, a, got, ok, n, there)
	}
}

func TestTurns(t *testing.T) {
	r := rand.New(rand.NewSource(1))
	for range 20000 {
		stock, total, a := amount(r), amount(r), amount(r)
		switch r.Intn(12) {
		case 0:
			stock = over
		case 1:
			total = huge
		case 2:
			a = huge
		case 3:
			a = api.U{r.Uint64(), r.Uint64(), r.Uint64()}
		}
		got, ok := rate.Shares(stock, total, a)
		check(t, "Shares", got, ok, a, total, stock)
		got, ok = rate.Tokens(stock, total, a)
		check(t, "Tokens", got, ok, a, stock, total)
		good := toBig(stock).BitLen() <= 128 && toBig(total).Cmp(toBig(stock)) <= 0
		if rate.Good(stock, total) != good {
			t.Fatalf("Good(%v, %v)", stock, total)
		}
	}
}

func TestExamples(t *testing.T) {
	if rate.Virtual() != u256.Of(1000) {
		t.Error("Virtual", rate.Virtual())
	}
	if got, ok := rate.Shares(api.U{}, api.U{}, u256.Of(100)); !ok || got != u256.Of(100) {
		t.Error("Shares(0, 0, 100)", got, ok)
	}
	if got, ok := rate.Shares(u256.Of(1000), api.U{}, u256.Of(100)); !ok || got != u256.Of(50) {
		t.Error("Shares(1000, 0, 100)", got, ok)
	}
	if got, ok := rate.Tokens(u256.Of(1000), api.U{}, u256.Of(50)); !ok || got != u256.Of(100) {
		t.Error("Tokens(1000, 0, 50)", got, ok)
	}
	if !rate.Good(wad.Most(), wad.Most()) || !rate.Good(api.U{}, api.U{}) || rate.Good(over, api.U{}) || rate.Good(over, over) || rate.Good(u256.Of(1), u256.Of(2)) {
		t.Error("Good")
	}
}

// TestTrade: a strategy stays good as it is traded, and nobody gains by it.
func TestTrade(t *testing.T) {
	r := rand.New(rand.NewSource(2))
	var stock, total api.U
	for range 20000 {
		a := api.U{r.Uint64() >> uint(r.Intn(64))}
		switch r.Intn(4) {
		case 0:
			shares, ok := rate.Shares(stock, total, a)
			more, fits := u256.Add(stock, a)
			if !ok || u256.Cmp(shares, a) > 0 {
				t.Fatalf("Shares(%v, %v, %v): %v", stock, total, a, shares)
			}
			if !fits || !wad.Amount(more) {
				continue
			}
			sum, _ := u256.Add(total, shares)
			back, _ := rate.Tokens(more, sum, shares)
			if u256.Cmp(back, a) > 0 {
				t.Fatalf("who buys for %v and sells has %v", a, back)
			}
			stock, total = more, sum
		case 1, 2:
			shares := u256.Min(a, total)
			if r.Intn(20) == 0 {
				shares = total
			}
			tokens, ok := rate.Tokens(stock, total, shares)
			if !ok || u256.Cmp(tokens, stock) > 0 {
				t.Fatalf("Tokens(%v, %v, %v): %v", stock, total, shares, tokens)
			}
			stock, _ = u256.Sub(stock, tokens)
			total, _ = u256.Sub(total, shares)
		default:
			if more, _ := u256.Add(stock, a); wad.Amount(more) {
				stock = more
			}
		}
		if !rate.Good(stock, total) {
			t.Fatalf("stock %v, total %v", stock, total)
		}
	}
}
