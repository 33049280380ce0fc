package factor_test

import (
	"math"
	"math/big"
	"math/rand"
	"testing"

	"tallage/api"
	"tallage/factor"
	"tallage/u256"
	"tallage/wad"
)

var (
	huge   = api.U{math.MaxUint64, math.MaxUint64, math.MaxUint64, math.MaxUint64}
	one    = toBig(wad.One())
	square = toBig(wad.Square())
	most   = toBig(wad.Most())
)

func toBig(a api.U) *big.Int { return new(big.Int).SetBytes(u256.Bytes(a)) }

func fromBig(n *big.Int) api.U {
	a, _ := u256.FromBytes(n.FillBytes(make([]byte, 32)))
	return a
}

func mul(l ...*big.Int) *big.Int {
	n := big.NewInt(1)
	for _, x := range l {
		n.Mul(n, x)
	}
	return n
}

func plus(a, b *big.Int) *big.Int { return new(big.Int).Add(a, b) }

func more(a api.U) api.U {
	sum, _ := u256.Add(a, u256.Of(1))
	return sum
}

// pick tells one of the ends, or another number of at most most.
func pick(r *rand.Rand, most api.U) api.U {
	switch r.Intn(12) {
	case 0:
		return api.U{}
	case 1:
		return most
	case 2:
		return more(most)
	case 3:
		return u256.Of(uint64(r.Intn(3)))
	case 4:
		return huge
	case 5:
		return u256.Min(wad.One(), most)
	}
	n := new(big.Int).Rand(r, plus(toBig(most), big.NewInt(1)))
	return fromBig(n.Rsh(n, uint(r.Intn(n.BitLen()+1))))
}

func good(d, f, m *big.Int) bool { return d.Cmp(most) <= 0 && f.Cmp(square) <= 0 && m.Cmp(one) <= 0 }

func check(t *testing.T, what string, got api.U, ok bool, want *big.Int, is bool, args ...api.U) {
	t.Helper()
	if ok != is || is && toBig(got).Cmp(want) != 0 || !is && got != (api.U{}) {
		t.Fatalf("%s(%v): %v %v, want %v %v", what, args, got, ok, want, is)
	}
}

// quotient tells n divided by d as a factor, if it is one.
func quotient(n, d *big.Int) (*big.Int, bool) {
	if d.Sign() == 0 {
		return new(big.Int), false
	}
	q := new(big.Int).Div(n, d)
	return q, q.Sign() > 0 && q.Cmp(square) <= 0
}

func TestAll(t *testing.T) {
	r := rand.New(rand.NewSource(1))
	counts := [4]int{}
	for range 100000 {
		a, b, c, e := pick(r, wad.Most()), pick(r, wad.Square()), pick(r, wad.One()), pick(r, wad.Most())
		d, f, m, x := toBig(a), toBig(b), toBig(c), toBig(e)
		is := good(d, f, m)
		if factor.Good(a, b, c) != is {
			t.Fatalf("Good(%v, %v, %v)", d, f, m)
		}
		worth := new(big.Int).Div(mul(d, f, m), square)
		got, ok := factor.Worth(a, b, c)
		check(t, "Worth", got, ok, worth, is, a, b, c)
		grown, fits := quotient(mul(plus(worth, x), square), mul(plus(d, x), m))
		grows := is && fits && x.Sign() > 0 && plus(d, x).Cmp(most) <= 0
		got, ok = factor.Grow(a, b, c, e)
		check(t, "Grow", got, ok, grown, grows, a, b, c, e)
		moved, fits := quotient(mul(new(big.Int).Div(mul(d, f, one), square), square), mul(d, m))
		moves := is && fits
		got, ok = factor.Move(a, b, c)
		check(t, "Move", got, ok, moved, moves, a, b, c)
		scaled, scales := new(big.Int), d.Cmp(most) <= 0 && m.Cmp(one) <= 0
		if m.Sign() > 0 {
			scaled.Div(mul(d, square), m)
		}
		if scales || m.Sign() > 0 {
			got, ok = factor.Scaled(a, c)
			check(t, "Scaled", got, ok, scaled, scales, a, c)
		}
		for i, b := range []bool{is, grows, moves, scales} {
			if b {
				counts[i]++
			}
		}
	}
	for i, n := range counts {
		if n < 10000 {
			t.Errorf("too few of %d: %d", i, n)
		}
	}
}

func TestExamples(t *testing.T) {
	half := u256.Of(500_000_000_000_000_000)
	if w, ok := factor.Worth(u256.Of(100), wad.One(), half); !ok || w != u256.Of(50) {
		t.Error("Worth", w, ok)
	}
	if f, ok := factor.Grow(u256.Of(100), wad.One(), half, u256.Of(50)); !ok || f != u256.Of(1333333333333333333) {
		t.Error("Grow", f, ok)
	}
	if f, ok := factor.Grow(api.U{}, wad.One(), wad.One(), u256.Of(7)); !ok || f != wad.One() {
		t.Error("Grow of nothing", f, ok)
	}
	if f, ok := factor.Move(u256.Of(100), wad.One(), half); !ok || f != u256.Of(2_000_000_000_000_000_000) {
		t.Error("Move", f, ok)
	}
	if w, ok := factor.Scaled(u256.Of(100), api.U{}); !ok || w != (api.U{}) {
		t.Error("Scaled by 0", w, ok)
	}
	if w, ok := factor.Scaled(more(wad.Most()), wad.One()); ok || w != (api.U{}) {
		t.Error("Scaled of too much", w, ok)
	}
	// A factor at its end, and beyond it.
	if f, ok := factor.Move(u256.Of(1), wad.One(), u256.Of(1)); !ok || f != wad.Square() {
		t.Error("the greatest factor", f, ok)
	}
	if f, ok := factor.Move(u256.Of(1), u256.Of(2_000_000_000_000_000_000), u256.Of(1)); ok || f != (api.U{}) {
		t.Error("a factor beyond the greatest", f, ok)
	}
	if f, ok := factor.Move(u256.Of(1), u256.Of(1), wad.One()); ok || f != (api.U{}) {
		t.Error("a factor of 0", f, ok)
	}
}

// TestClose: what grows, or moves, is worth at most what it should be, and not
// much less.
func TestClose(t *testing.T) {
	r := rand.New(rand.NewSource(2))
	between := func(least, most *big.Int) *big.Int {
		n := new(big.Int).Rand(r, most)
		n.Rsh(n, uint(r.Intn(n.BitLen()+1)))
		if n.Cmp(least) < 0 {
			return least
		}
		return n
	}
	low := big.NewInt(1_000_000_000)
	near := func(what string, got api.U, want *big.Int) {
		t.Helper()
		// want - got is at most 1 and a 10^9th of want.
		lack := new(big.Int).Sub(want, toBig(got))
		if lack.Sign() < 0 {
			t.Fatalf("%s: %v is above %v", what, toBig(got), want)
		}
		if lack.Sub(lack, big.NewInt(1)); mul(lack, low).Cmp(want) > 0 {
			t.Fatalf("%s: %v is far below %v", what, toBig(got), want)
		}
	}
	for range 20000 {
		d, x := between(big.NewInt(1), new(big.Int).Rsh(most, 1)), between(big.NewInt(1), new(big.Int).Rsh(most, 1))
		f, m := between(low, square), between(low, one)
		was, _ := factor.Worth(fromBig(d), fromBig(f), fromBig(m))
		if g, ok := factor.Grow(fromBig(d), fromBig(f), fromBig(m), fromBig(x)); ok && toBig(g).Cmp(low) >= 0 {
			is, _ := factor.Worth(fromBig(plus(d, x)), g, fromBig(m))
			near("Grow", is, plus(toBig(was), x))
		}
		with, _ := factor.Worth(fromBig(d), fromBig(f), wad.One())
		if g, ok := factor.Move(fromBig(d), fromBig(f), fromBig(m)); ok && toBig(g).Cmp(low) >= 0 {
			is, _ := factor.Worth(fromBig(d), g, fromBig(m))
			near("Move", is, toBig(with))
		}
	}
}
