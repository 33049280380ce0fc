package wad_test

import (
	"math"
	"math/big"
	"math/rand"
	"testing"

	"tallage/api"
	"tallage/u256"
	"tallage/wad"
)

var (
	limit = new(big.Int).Lsh(big.NewInt(1), 256)
	one   = new(big.Int).Exp(big.NewInt(10), big.NewInt(18), nil)
	most  = api.U{math.MaxUint64, math.MaxUint64, math.MaxUint64, math.MaxUint64}
)

func toBig(a api.U) *big.Int {
	n := new(big.Int)
	for i := len(a) - 1; i >= 0; i-- {
		n.Lsh(n, 64)
		n.Or(n, new(big.Int).SetUint64(a[i]))
	}
	return n
}

func fromBig(n *big.Int) api.U {
	var a api.U
	for i := range a {
		a[i] = new(big.Int).Rsh(n, uint(64*i)).Uint64()
	}
	return a
}

func plus(a api.U, n uint64) api.U {
	sum, _ := u256.Add(a, u256.Of(n))
	return sum
}

func TestConstants(t *testing.T) {
	if toBig(wad.One()).Cmp(one) != 0 {
		t.Error("One", wad.One())
	}
	if toBig(wad.Square()).Cmp(new(big.Int).Mul(one, one)) != 0 {
		t.Error("Square", wad.Square())
	}
	if wad.Most() != (api.U{math.MaxUint64, math.MaxUint64}) {
		t.Error("Most", wad.Most())
	}
	if !wad.Good(api.U{}) || !wad.Good(wad.One()) || wad.Good(plus(wad.One(), 1)) || wad.Good(api.U{0, 1}) || wad.Good(most) {
		t.Error("Good")
	}
	if !wad.Amount(api.U{}) || !wad.Amount(wad.Most()) || wad.Amount(plus(wad.Most(), 1)) || wad.Amount(most) {
		t.Error("Amount")
	}
}

// check holds a result against x times y divided by z: none where z is 0, or
// the number has more than 256 bits.
func check(t *testing.T, what string, got api.U, ok bool, x, y, z *big.Int, up bool) {
	t.Helper()
	n, there := new(big.Int), z.Sign() != 0
	if there {
		left := new(big.Int)
		n.DivMod(new(big.Int).Mul(x, y), z, left)
		if up && left.Sign() > 0 {
			n.Add(n, big.NewInt(1))
		}
		there = n.Cmp(limit) < 0
	}
	if ok != there || there && got != fromBig(n) || !there && got != (api.U{}) {
		t.Fatalf("%s(%v, %v, %v): %v %v, want %v %v", what, x, y, z, got, ok, n, there)
	}
}

func random(r *rand.Rand) api.U {
	switch r.Intn(8) {
	case 0:
		return api.U{}
	case 1:
		return wad.One()
	case 2:
		return wad.Most()
	case 3:
		return most
	}
	var a api.U
	for i := range 1 + r.Intn(4) {
		a[i] = r.Uint64() >> uint(r.Intn(64))
	}
	return a
}

func TestParts(t *testing.T) {
	r := rand.New(rand.NewSource(1))
	for range 50000 {
		a, b, c := random(r), random(r), random(r)
		x, y, z := toBig(a), toBig(b), toBig(c)
		got, ok := wad.Part(a, b)
		check(t, "Part", got, ok, x, y, one, false)
		got, ok = wad.PartUp(a, b)
		check(t, "PartUp", got, ok, x, y, one, true)
		got, ok = wad.Ratio(a, b)
		check(t, "Ratio", got, ok, x, one, y, false)
		if a == (api.U{}) && c == (api.U{}) {
			continue
		}
		got, ok = wad.Scale(a, b, c)
		check(t, "Scale", got, ok, x, y, z, false)
		got, ok = wad.ScaleUp(a, b, c)
		check(t, "ScaleUp", got, ok, x, y, z, true)
	}
}

func TestFromNothing(t *testing.T) {
	for _, to := range []api.U{{}, {1}, most} {
		for _, scale := range []func(a, to, from api.U) (api.U, bool){wad.Scale, wad.ScaleUp} {
			if got, ok := scale(api.U{}, to, api.U{}); got != (api.U{}) || !ok {
				t.Error("0 from 0", got, ok)
			}
			if got, ok := scale(api.U{1}, to, api.U{}); got != (api.U{}) || ok {
				t.Error("1 from 0", got, ok)
			}
		}
	}
	if got, ok := wad.Ratio(api.U{}, api.U{}); got != (api.U{}) || ok {
		t.Error("Ratio(0, 0)", got, ok)
	}
}

func TestTogether(t *testing.T) {
	r := rand.New(rand.NewSource(2))
	for range 20000 {
		a := random(r)
		f := u256.Min(random(r), wad.One())
		lack, _ := u256.Sub(wad.One(), f)
		part, ok := wad.Part(a, f)
		rest, is := wad.PartUp(a, lack)
		if sum, fits := u256.Add(part, rest); !ok || !is || !fits || sum != a {
			t.Fatalf("parts of %v by %v: %v %v", a, f, part, rest)
		}
		from := random(r)
		to := u256.Min(random(r), from)
		if got, _ := wad.Scale(a, to, from); u256.Cmp(got, a) > 0 {
			t.Fatalf("Scale(%v, %v, %v): %v", a, to, from, got)
		}
	}
}

func TestExamples(t *testing.T) {
	if got, ok := wad.Part(u256.Of(10), wad.One()); !ok || got != u256.Of(10) {
		t.Error("Part(10, One)", got, ok)
	}
	if got, ok := wad.PartUp(u256.Of(1), u256.Of(1)); !ok || got != u256.Of(1) {
		t.Error("PartUp(1, 1)", got, ok)
	}
	if got, ok := wad.Scale(u256.Of(10), u256.Of(1), u256.Of(3)); !ok || got != u256.Of(3) {
		t.Error("Scale(10, 1, 3)", got, ok)
	}
	if got, ok := wad.ScaleUp(u256.Of(10), u256.Of(1), u256.Of(3)); !ok || got != u256.Of(4) {
		t.Error("ScaleUp(10, 1, 3)", got, ok)
	}
}
