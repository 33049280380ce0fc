package magn_test

import (
	"math"
	"math/rand"
	"testing"

	"tallage/api"
	"tallage/history"
	"tallage/magn"
	"tallage/store"
	"tallage/u256"
	"tallage/wad"
)

const quarter = 250_000_000_000_000_000

func of(n uint64) api.U { return u256.Of(n) }

func TestExample(t *testing.T) {
	s := store.New()
	if magn.Max(s, 7, 1) != wad.One() || magn.Changes(s, 7, 1) != 0 {
		t.Error("ahead of any cut")
	}
	was, is, e := magn.Cut(s, 7, 1, 5, of(quarter))
	if was != wad.One() || is != of(3*quarter) || e != api.OK {
		t.Error("Cut", was, is, e)
	}
	if magn.At(s, 7, 1, 4) != wad.One() || magn.At(s, 7, 1, 5) != of(3*quarter) || magn.Max(s, 7, 1) != of(3*quarter) || magn.Changes(s, 7, 1) != 1 {
		t.Error("behind a cut")
	}
	if a, ok := history.At(s, 13, []int{7, 1}, 5); !ok || a != of(3*quarter) {
		t.Errorf("%q", s.All())
	}
	if magn.Max(s, 7, 2) != wad.One() || magn.Max(s, 1, 7) != wad.One() || magn.Max(s, 8, 1) != wad.One() {
		t.Error("others")
	}
	was, is, e = magn.Cut(s, 7, 1, 6, of(3*quarter))
	if was != of(3*quarter) || is != (api.U{}) || e != api.OK || magn.Max(s, 7, 1) != (api.U{}) || magn.At(s, 7, 1, 6) != (api.U{}) {
		t.Error("all of it", was, is, e)
	}
}

func TestErrors(t *testing.T) {
	s := store.New()
	magn.Cut(s, 7, 1, 5, of(quarter))
	mark := s.Mark()
	for _, c := range []struct {
		operator, strategy, block int
		a                         api.U
		e                         api.Errno
	}{
		{0, 1, 6, of(1), api.ErrArg}, {-1, 1, 6, of(1), api.ErrArg}, {7, 0, 6, of(1), api.ErrArg}, {7, -1, 6, wad.Most(), api.ErrArg},
		{7, 1, 6, of(3*quarter + 1), api.ErrFunds}, {7, 1, -6, wad.Most(), api.ErrFunds}, {7, 1, -1, of(1), api.ErrArg}, {7, 1, api.MaxBlock + 1, of(1), api.ErrArg},
		{7, 1, 4, of(1), api.ErrState}, {7, 1, math.MinInt, of(1), api.ErrArg}, {8, 1, 6, of(4*quarter + 1), api.ErrFunds},
	} {
		was, is, e := magn.Cut(s, c.operator, c.strategy, c.block, c.a)
		if e != c.e || was != (api.U{}) || is != (api.U{}) || s.Mark() != mark {
			t.Errorf("%v: %v %v %v", c, was, is, e)
		}
	}
}

func TestLeast(t *testing.T) {
	s := store.New()
	if was, is, e := magn.Cut(s, 1, 1, 0, wad.One()); was != wad.One() || is != (api.U{}) || e != api.OK {
		t.Error(was, is, e)
	}
}

func TestNobody(t *testing.T) {
	s := store.New()
	history.Push(s, 13, []int{0, 1}, 5, of(9))
	for _, operator := range []int{0, -1, math.MinInt, math.MaxInt} {
		if magn.Max(s, operator, 1) != wad.One() || magn.At(s, operator, 1, 9) != wad.One() {
			t.Error(operator)
		}
	}
	if magn.Max(s, 7, -1) != wad.One() || magn.At(s, 7, 1, -1) != wad.One() || magn.Changes(s, -1, 1) != 0 {
		t.Error("numbers below 0")
	}
}

// TestFalls: Max never rises, and At of a later block is never more.
func TestFalls(t *testing.T) {
	r := rand.New(rand.NewSource(1))
	for range 50 {
		s := store.New()
		block := 0
		for range 20 {
			block += r.Intn(3)
			was := magn.Max(s, 7, 1)
			magn.Cut(s, 7, 1, block, of(r.Uint64()>>uint(4+r.Intn(60))))
			if u256.Cmp(magn.Max(s, 7, 1), was) > 0 {
				t.Fatal("Max rises")
			}
		}
		for at := range block + 2 {
			if u256.Cmp(magn.At(s, 7, 1, at), magn.At(s, 7, 1, at-1)) > 0 {
				t.Fatal("At rises")
			}
		}
		if magn.At(s, 7, 1, block) != magn.Max(s, 7, 1) || magn.At(s, 7, 1, math.MaxInt) != magn.Max(s, 7, 1) {
			t.Fatal("the last one is not Max")
		}
	}
}

func TestNoStore(t *testing.T) {
	for _, s := range []*store.Store{nil, {}} {
		if magn.Max(s, 7, 1) != wad.One() || magn.At(s, 7, 1, 5) != wad.One() || magn.Changes(s, 7, 1) != 0 {
			t.Error("something is there")
		}
		for _, c := range []struct {
			operator int
			a        api.U
			e        api.Errno
		}{{0, of(1), api.ErrArg}, {7, wad.Most(), api.ErrFunds}, {7, of(1), api.ErrMade}} {
			if was, is, e := magn.Cut(s, c.operator, 1, 5, c.a); e != c.e || was != (api.U{}) || is != (api.U{}) {
				t.Error(c, e)
			}
		}
	}
}
