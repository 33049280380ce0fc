package muldiv_test

import (
	"math"
	"math/big"
	"math/rand"
	"testing"

	"tallage/api"
	"tallage/muldiv"
	"tallage/u256"
)

var limit = new(big.Int).Lsh(big.NewInt(1), 256)

func toBig(a api.U) *big.Int {
	n := new(big.Int)
	for i := len(a) - 1; i >= 0; i-- {
		n.Lsh(n, 64)
		n.Or(n, new(big.Int).SetUint64(a[i]))
	}
	return n
}

func fromBig(n *big.Int) api.U {
	var a api.U
	for i := range a {
		a[i] = new(big.Int).Rsh(n, uint(64*i)).Uint64()
	}
	return a
}

func wideToBig(w muldiv.Wide) *big.Int {
	n := new(big.Int).Lsh(toBig(w.High), 256)
	return n.Or(n, toBig(w.Low))
}

func pow(n uint) api.U { return fromBig(new(big.Int).Lsh(big.NewInt(1), n)) }

var most = api.U{math.MaxUint64, math.MaxUint64, math.MaxUint64, math.MaxUint64}

func random(r *rand.Rand) api.U {
	words := []uint64{0, 1, 2, 1 << 63, 1<<63 - 1, 1<<63 + 1, math.MaxUint64, math.MaxUint64 - 1}
	var a api.U
	for i := range 1 + r.Intn(4) {
		a[i] = words[r.Intn(len(words))]
		if r.Intn(2) == 0 {
			a[i] = r.Uint64() >> uint(r.Intn(64))
		}
	}
	return a
}

func checkQuo(t *testing.T, w muldiv.Wide, d api.U) {
	t.Helper()
	q, r, ok := muldiv.Quo(w, d)
	var x, y big.Int
	fits := d != (api.U{})
	if fits {
		x.DivMod(wideToBig(w), toBig(d), &y)
		fits = x.Cmp(limit) < 0
	}
	if !fits && (ok || q != (api.U{}) || r != (api.U{})) || fits && (!ok || q != fromBig(&x) || r != fromBig(&y)) {
		t.Fatalf("Quo(%v, %v): %v %v %v, want %v %v %v", w, d, q, r, ok, &x, &y, fits)
	}
}

func checkRounded(t *testing.T, what string, got api.U, ok bool, n *big.Int, there bool) {
	t.Helper()
	there = there && n.Cmp(limit) < 0
	if ok != there || there && got != fromBig(n) || !there && got != (api.U{}) {
		t.Fatalf("%s: %v %v, want %v %v", what, got, ok, n, there)
	}
}

func TestAll(t *testing.T) {
	r := rand.New(rand.NewSource(1))
	for range 100000 {
		a, b, d := random(r), random(r), random(r)
		w := muldiv.Mul(a, b)
		product := new(big.Int).Mul(toBig(a), toBig(b))
		if wideToBig(w).Cmp(product) != 0 {
			t.Fatalf("Mul(%v, %v): %v", a, b, w)
		}
		checkQuo(t, w, d)
		checkQuo(t, muldiv.Wide{High: random(r), Low: random(r)}, d)
		there := d != (api.U{})
		down, up, left := new(big.Int), new(big.Int), new(big.Int)
		if there {
			down.DivMod(product, toBig(d), left)
			up.Set(down)
			if left.Sign() > 0 {
				up.Add(up, big.NewInt(1))
			}
		}
		got, ok := muldiv.Down(a, b, d)
		checkRounded(t, "Down", got, ok, down, there)
		got, ok = muldiv.Up(a, b, d)
		checkRounded(t, "Up", got, ok, up, there)
	}
}

func TestEdges(t *testing.T) {
	one := u256.Of(1)
	for _, w := range []muldiv.Wide{{}, {Low: one}, {High: one}, {High: most, Low: most}, {High: pow(255)}, {Low: most}} {
		for _, d := range []api.U{{}, one, u256.Of(2), pow(63), pow(64), pow(128), pow(255), most} {
			checkQuo(t, w, d)
		}
	}
	// The greatest quotient that fits, and the least that does not.
	checkQuo(t, muldiv.Wide{High: u256.Of(6), Low: most}, u256.Of(7))
	checkQuo(t, muldiv.Wide{High: u256.Of(7)}, u256.Of(7))
	// Rounded down it fits, rounded up not.
	// 2^257 - 1 = 535006138814359 * (a prime and more): halved and rounded up it is 2^256.
	f := big.NewInt(535006138814359)
	n := new(big.Int).Sub(new(big.Int).Lsh(big.NewInt(1), 257), big.NewInt(1))
	q, left := new(big.Int).DivMod(n, f, new(big.Int))
	if left.Sign() != 0 {
		t.Fatal("no factor")
	}
	if got, ok := muldiv.Down(fromBig(f), fromBig(q), u256.Of(2)); !ok || got != most {
		t.Errorf("Down at the end: %v %v", got, ok)
	}
	if got, ok := muldiv.Up(fromBig(f), fromBig(q), u256.Of(2)); ok || got != (api.U{}) {
		t.Errorf("Up beyond the end: %v %v", got, ok)
	}
	if got, ok := muldiv.Down(one, one, api.U{}); ok || got != (api.U{}) {
		t.Error("Down by 0")
	}
	if got, ok := muldiv.Up(api.U{}, api.U{}, api.U{}); ok || got != (api.U{}) {
		t.Error("Up of 0 by 0")
	}
}

// TestExact divides products: guesses that are too great by two leave less than
// nothing, by more than the divisor has bits.
func TestExact(t *testing.T) {
	words := []uint64{0, 1, 1 << 63, 1<<63 - 1, math.MaxUint64, math.MaxUint64 - 1}
	for _, x := range words {
		for _, y := range words {
			for _, z := range words {
				for _, q := range words {
					d, times := api.U{x, y, math.MaxUint64, z}, api.U{q, y, z, x}
					checkQuo(t, muldiv.Mul(d, times), d)
					if got, ok := muldiv.Up(d, times, d); !ok || got != times {
						t.Fatalf("Up(%v, %v, %v): %v %v", d, times, d, got, ok)
					}
				}
			}
		}
	}
}

func TestExamples(t *testing.T) {
	if got, ok := muldiv.Down(u256.Of(7), u256.Of(3), u256.Of(2)); !ok || got != u256.Of(10) {
		t.Error("Down(7, 3, 2)", got, ok)
	}
	if got, ok := muldiv.Up(u256.Of(7), u256.Of(3), u256.Of(2)); !ok || got != u256.Of(11) {
		t.Error("Up(7, 3, 2)", got, ok)
	}
	if got, ok := muldiv.Down(pow(255), u256.Of(4), u256.Of(8)); !ok || got != pow(254) {
		t.Error("Down(2^255, 4, 8)", got, ok)
	}
}
