package sha_test

import (
	"bytes"
	"crypto/sha256"
	"encoding/hex"
	"math/rand"
	"strings"
	"testing"

	"tallage/api"
	"tallage/sha"
)

func random(r *rand.Rand, n int) []byte {
	b := make([]byte, n)
	r.Read(b)
	return b
}

func TestSum(t *testing.T) {
	if got := sha.Hex(sha.Sum([]byte("abc"))); got != "ba7816bf8f01cfea414140de5dae2223b00361a396177a9cb410ff61f20015ad" {
		t.Error("abc", got)
	}
	if sha.Sum(nil) != sha.Sum([]byte{}) || sha.Sum(nil) != sha256.Sum256(nil) {
		t.Error("nothing")
	}
	r := rand.New(rand.NewSource(1))
	for n := range 400 {
		b := random(r, n)
		keep := bytes.Clone(b)
		if got := sha.Sum(b); got != sha256.Sum256(keep) || !bytes.Equal(b, keep) {
			t.Fatalf("%d bytes: %x", n, got)
		}
	}
	for _, n := range []int{1 << 16, 1<<20 + 17} {
		b := random(r, n)
		if got := sha.Sum(b); got != sha256.Sum256(b) {
			t.Fatalf("%d bytes: %x", n, got)
		}
	}
}

// TestCuts: however bytes are cut into Writes, and sums asked for in between,
// the sums are the same.
func TestCuts(t *testing.T) {
	r := rand.New(rand.NewSource(2))
	for range 300 {
		s, all := sha.New(), []byte(nil)
		for range r.Intn(12) {
			b := random(r, r.Intn(150))
			if r.Intn(3) == 0 {
				b = b[:min(len(b), r.Intn(3))]
			}
			all = append(all, b...)
			s.Write(b)
			clear(b)
			if s.Len() != len(all) {
				t.Fatalf("Len: %d, want %d", s.Len(), len(all))
			}
			if s.Sum() != sha256.Sum256(all) || s.Sum() != s.Sum() {
				t.Fatalf("%d bytes: %x", len(all), s.Sum())
			}
		}
	}
}

func TestCopyAndReset(t *testing.T) {
	r := rand.New(rand.NewSource(3))
	for _, n := range []int{0, 1, 63, 64, 65, 130} {
		b := random(r, n)
		s := sha.New()
		s.Write(b)
		c := s.Copy()
		s.Write([]byte("one"))
		c.Write([]byte("other"))
		if s.Sum() != sha256.Sum256(append(b[:n:n], "one"...)) || c.Sum() != sha256.Sum256(append(b[:n:n], "other"...)) {
			t.Errorf("a copy of %d bytes does not go its own way", n)
		}
		if s.Len() != n+3 || c.Len() != n+5 {
			t.Error("Len", s.Len(), c.Len())
		}
		s.Reset()
		if s.Len() != 0 || s.Sum() != sha256.Sum256(nil) {
			t.Error("Reset")
		}
		s.Write([]byte("abc"))
		if s.Sum() != sha256.Sum256([]byte("abc")) || c.Len() != n+5 {
			t.Error("behind Reset")
		}
	}
}

func TestNoState(t *testing.T) {
	for _, s := range []*sha.State{nil, {}} {
		s.Write([]byte("abc"))
		s.Write(make([]byte, 200))
		s.Reset()
		if s.Sum() != (api.Hash{}) || s.Len() != 0 || s.Copy() != nil {
			t.Error("something is told")
		}
	}
}

func TestDigits(t *testing.T) {
	for c := range 256 {
		want := strings.IndexByte("0123456789abcdef", byte(c))
		if got := sha.Digit(byte(c)); got != want {
			t.Errorf("Digit(%d): %d", c, got)
		}
	}
}

func TestHex(t *testing.T) {
	r := rand.New(rand.NewSource(4))
	for range 200 {
		var h api.Hash
		r.Read(h[:])
		text := sha.Hex(h)
		if text != hex.EncodeToString(h[:]) {
			t.Fatalf("Hex(%v): %s", h, text)
		}
		if back, ok := sha.Parse(text); !ok || back != h {
			t.Fatalf("Parse(%s): %v %v", text, back, ok)
		}
	}
	good := strings.Repeat("0f", 32)
	for _, s := range []string{"", "0", good[1:], good + "0", good + "00", strings.ToUpper(good), "g" + good[1:], good[:63] + "g", good[:30] + " " + good[31:], good[:62] + "é"} {
		if h, ok := sha.Parse(s); ok || h != (api.Hash{}) {
			t.Errorf("Parse(%q): %v %v", s, h, ok)
		}
	}
}

func BenchmarkSum(b *testing.B) {
	text := make([]byte, 64)
	for b.Loop() {
		sha.Sum(text)
	}
}
