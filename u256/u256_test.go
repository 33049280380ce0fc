package u256_test

import (
	"bytes"
	"math"
	"math/big"
	"math/rand"
	"strings"
	"testing"

	"tallage/api"
	"tallage/u256"
)

var limit = new(big.Int).Lsh(big.NewInt(1), 256)

func toBig(a api.U) *big.Int {
	n := new(big.Int)
	for i := len(a) - 1; i >= 0; i-- {
		n.Lsh(n, 64)
		n.Or(n, new(big.Int).SetUint64(a[i]))
	}
	return n
}

func fromBig(n *big.Int) api.U {
	var a api.U
	for i := range a {
		a[i] = new(big.Int).Rsh(n, uint(64*i)).Uint64()
	}
	return a
}

func pow(n uint) api.U { return fromBig(new(big.Int).Lsh(big.NewInt(1), n)) }

// samples are numbers at the ends of words, and others of every length.
func samples() []api.U {
	l := []api.U{{}, {1}, {2}, {3}, {10}, {math.MaxUint64}, {0, 1}, {math.MaxUint64, math.MaxUint64},
		{0, 0, 1}, {0, 0, 0, 1}, {0, 0, 0, 1 << 63}, {0, 0, 0, math.MaxUint64}, {1, 0, 0, 1 << 63},
		{math.MaxUint64, math.MaxUint64, math.MaxUint64, math.MaxUint64},
		{math.MaxUint64 - 1, math.MaxUint64, math.MaxUint64, math.MaxUint64},
		{0, math.MaxUint64, math.MaxUint64, math.MaxUint64}, {0, 0, math.MaxUint64, math.MaxUint64}}
	r := rand.New(rand.NewSource(1))
	for i := range 120 {
		var a api.U
		for j := range 1 + i%4 {
			a[j] = r.Uint64()
			switch r.Intn(6) {
			case 0:
				a[j] = math.MaxUint64
			case 1:
				a[j] = 0
			case 2:
				a[j] >>= uint(r.Intn(64))
			}
		}
		l = append(l, a)
	}
	return l
}

// want holds a result against the number that it should be: none, if that is
// not from 0 to 2^256 - 1.
func want(t *testing.T, what string, a, b, got api.U, ok bool, n *big.Int) {
	t.Helper()
	fits := n.Sign() >= 0 && n.Cmp(limit) < 0
	if !fits {
		n = new(big.Int)
	}
	if ok != fits || got != fromBig(n) {
		t.Fatalf("%s(%v, %v): %v %v, want %v %v", what, a, b, got, ok, n, fits)
	}
}

func TestArithmetic(t *testing.T) {
	for _, a := range samples() {
		for _, b := range samples() {
			x, y := toBig(a), toBig(b)
			got, ok := u256.Add(a, b)
			want(t, "Add", a, b, got, ok, new(big.Int).Add(x, y))
			if back, is := u256.Sub(got, b); ok && (!is || back != a) {
				t.Fatalf("%v + %v - %v: %v", a, b, b, back)
			}
			got, ok = u256.Sub(a, b)
			want(t, "Sub", a, b, got, ok, new(big.Int).Sub(x, y))
			got, ok = u256.Mul(a, b)
			want(t, "Mul", a, b, got, ok, new(big.Int).Mul(x, y))
			if back, left, is := u256.Div(got, b); ok && b != (api.U{}) && (!is || back != a || left != api.U{}) {
				t.Fatalf("%v * %v / %v: %v %v", a, b, b, back, left)
			}
			if c := u256.Cmp(a, b); c != x.Cmp(y) {
				t.Fatalf("Cmp(%v, %v): %d", a, b, c)
			}
			least := a
			if x.Cmp(y) > 0 {
				least = b
			}
			if m := u256.Min(a, b); m != least {
				t.Fatalf("Min(%v, %v): %v", a, b, m)
			}
		}
	}
}

func TestDiv(t *testing.T) {
	for _, a := range samples() {
		for _, b := range samples() {
			q, r, ok := u256.Div(a, b)
			if b == (api.U{}) {
				if ok || q != b || r != b {
					t.Fatalf("Div(%v, 0): %v %v %v", a, q, r, ok)
				}
				continue
			}
			x, y := new(big.Int).DivMod(toBig(a), toBig(b), new(big.Int))
			if !ok || q != fromBig(x) || r != fromBig(y) {
				t.Fatalf("Div(%v, %v): %v %v %v, want %v %v", a, b, q, r, ok, x, y)
			}
		}
	}
	if q, r, ok := u256.Div(u256.Of(7), u256.Of(2)); q != u256.Of(3) || r != u256.Of(1) || !ok {
		t.Errorf("Div(7, 2): %v %v %v", q, r, ok)
	}
}

// TestGuesses divides numbers of which the first guess of a word is too great.
func TestGuesses(t *testing.T) {
	r := rand.New(rand.NewSource(2))
	words := []uint64{0, 1, 2, 1 << 63, 1<<63 - 1, 1<<63 + 1, math.MaxUint64, math.MaxUint64 - 1}
	for range 200000 {
		var a, b api.U
		for i := range a {
			a[i], b[i] = words[r.Intn(len(words))], words[r.Intn(len(words))]
		}
		for i := 3; i >= r.Intn(4); i-- {
			b[i] = 0
		}
		if b == (api.U{}) {
			continue
		}
		q, left, _ := u256.Div(a, b)
		x, y := new(big.Int).DivMod(toBig(a), toBig(b), new(big.Int))
		if q != fromBig(x) || left != fromBig(y) {
			t.Fatalf("Div(%v, %v): %v %v, want %v %v", a, b, q, left, x, y)
		}
	}
}

// TestExact divides products, and numbers next to them: guesses that are too
// great by two leave less than nothing, by more than the divisor has bits.
func TestExact(t *testing.T) {
	words := []uint64{0, 1, 1 << 63, 1<<63 - 1, math.MaxUint64, math.MaxUint64 - 1}
	for _, x := range words {
		for _, y := range words {
			for _, z := range words {
				b := api.U{x, y, z}
				for _, q := range words {
					product, ok := u256.Mul(b, u256.Of(q))
					if !ok || b == (api.U{}) {
						continue
					}
					for _, r := range []uint64{0, 1, 2} {
						a, ok := u256.Add(product, u256.Of(r))
						if got, left, _ := u256.Div(a, b); ok && u256.Cmp(u256.Of(r), b) < 0 && (got != u256.Of(q) || left != u256.Of(r)) {
							t.Fatalf("Div(%v, %v): %v %v, want %v %v", a, b, got, left, q, r)
						}
					}
				}
			}
		}
	}
}

func TestSmall(t *testing.T) {
	if u256.Of(7) != (api.U{7}) || u256.Of(math.MaxUint64) != (api.U{math.MaxUint64}) {
		t.Error("Of")
	}
	for _, c := range []struct {
		a  api.U
		n  int
		ok bool
	}{{api.U{}, 0, true}, {api.U{5}, 5, true}, {api.U{math.MaxInt64}, math.MaxInt64, true},
		{api.U{1 << 63}, 0, false}, {api.U{math.MaxUint64}, 0, false}, {api.U{0, 1}, 0, false},
		{api.U{1, 0, 0, 1}, 0, false}, {api.U{1, 0, 1}, 0, false}} {
		if n, ok := u256.Int(c.a); n != c.n || ok != c.ok {
			t.Errorf("Int(%v): %d %v", c.a, n, ok)
		}
	}
	if a, ok := u256.Sub(u256.Of(1), u256.Of(2)); ok || a != (api.U{}) {
		t.Errorf("Sub(1, 2): %v %v", a, ok)
	}
	for _, a := range samples() {
		if n := u256.Bits(a); n != toBig(a).BitLen() {
			t.Errorf("Bits(%v): %d", a, n)
		}
	}
	for i := range uint(256) {
		if n := u256.Bits(pow(i)); n != int(i)+1 {
			t.Errorf("Bits(2^%d): %d", i, n)
		}
	}
}

func TestBytes(t *testing.T) {
	b := u256.Bytes(u256.Of(258))
	if len(b) != 32 || !bytes.Equal(b, append(make([]byte, 30), 1, 2)) {
		t.Errorf("Bytes(258): %v", b)
	}
	for _, a := range samples() {
		b := u256.Bytes(a)
		if !bytes.Equal(b, toBig(a).FillBytes(make([]byte, 32))) {
			t.Errorf("Bytes(%v): %v", a, b)
		}
		keep := bytes.Clone(b)
		if back, ok := u256.FromBytes(b); !ok || back != a || !bytes.Equal(b, keep) {
			t.Errorf("FromBytes(%v): %v %v", b, back, ok)
		}
	}
	for _, n := range []int{0, 1, 31, 33, 64} {
		if a, ok := u256.FromBytes(bytes.Repeat([]byte{1}, n)); ok || a != (api.U{}) {
			t.Errorf("FromBytes of %d bytes: %v %v", n, a, ok)
		}
	}
	if _, ok := u256.FromBytes(nil); ok {
		t.Error("FromBytes(nil)")
	}
}

func TestText(t *testing.T) {
	for _, a := range samples() {
		text := u256.Text(a)
		if text != toBig(a).String() {
			t.Errorf("Text(%v): %s", a, text)
		}
		if back, ok := u256.Parse(text); !ok || back != a {
			t.Errorf("Parse(%s): %v %v", text, back, ok)
		}
	}
	over := limit.String()
	for _, s := range []string{"", "00", "01", "-1", "+1", " 1", "1 ", "1a", "a", "0x1", "1_0", "٣", over,
		"9" + over[1:], over + "0", strings.Repeat("9", 5000), "1\x00", "/", ":"} {
		if a, ok := u256.Parse(s); ok || a != (api.U{}) {
			t.Errorf("Parse(%q): %v %v", s, a, ok)
		}
	}
}
