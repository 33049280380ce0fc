package split_test

import (
	"math"
	"math/big"
	"math/rand"
	"testing"

	"tallage/api"
	"tallage/delay"
	"tallage/roster"
	"tallage/service"
	"tallage/split"
	"tallage/store"
	"tallage/u256"
	"tallage/wad"
)

func filled() *store.Store {
	s := store.New()
	roster.Register(s, 7)
	service.Register(s, 9)
	return s
}

func TestSet(t *testing.T) {
	s := filled()
	if split.Get(s, 7, 9, 5) != 1000 {
		t.Error("without a split")
	}
	if e := split.Set(s, 7, 9, 250, 10, 3); e != api.OK {
		t.Fatal(e)
	}
	for block, want := range map[int]int{0: 1000, 12: 1000, 13: 250, math.MaxInt: 250, math.MinInt: 1000} {
		if got := split.Get(s, 7, 9, block); got != want {
			t.Error(block, got)
		}
	}
	if v := delay.Get(s, 41, []int{7, 9}); v != (delay.Value{Next: 250, At: 13, More: true}) {
		t.Error(v)
	}
	split.Set(s, 7, 9, 0, 14, 0)
	if split.Get(s, 7, 9, 14) != 0 {
		t.Error("a split of 0")
	}
	split.Set(s, 7, 9, api.MaxBips, 15, 1)
	if split.Get(s, 7, 9, 15) != 0 || split.Get(s, 7, 9, 16) != api.MaxBips {
		t.Error("a split of all")
	}
	mark := s.Mark()
	for _, c := range []struct {
		operator, service, bips, block, wait int
		e                                    api.Errno
	}{
		{8, 9, -1, -1, 0, api.ErrNone}, {7, 8, -1, 0, 0, api.ErrNone}, {9, 7, 5, 0, 0, api.ErrNone}, {0, 0, 5, 0, 0, api.ErrNone}, {-7, -9, 5, 0, 0, api.ErrNone},
		{7, 9, -1, -1, 0, api.ErrRange}, {7, 9, api.MaxBips + 1, 0, -1, api.ErrRange}, {7, 9, math.MaxInt, 0, 0, api.ErrRange}, {7, 9, 5, -1, 0, api.ErrArg}, {7, 9, 5, 0, -1, api.ErrArg}, {7, 9, 5, api.MaxBlock + 1, 0, api.ErrArg},
	} {
		if e := split.Set(s, c.operator, c.service, c.bips, c.block, c.wait); e != c.e || s.Mark() != mark {
			t.Errorf("%v: %v", c, e)
		}
	}
	for _, at := range [][2]int{{8, 9}, {9, 7}, {-7, 9}, {7, -9}} {
		if split.Get(s, at[0], at[1], 99) != 1000 {
			t.Error(at)
		}
	}
}

func TestParts(t *testing.T) {
	if a, b, ok := split.Parts(1000, u256.Of(99)); a != u256.Of(9) || b != u256.Of(90) || !ok {
		t.Error(a, b, ok)
	}
	toBig := func(a api.U) *big.Int { return new(big.Int).SetBytes(u256.Bytes(a)) }
	r := rand.New(rand.NewSource(1))
	for range 5000 {
		bips := r.Intn(api.MaxBips + 1)
		a := api.U{r.Uint64() >> uint(r.Intn(64)), r.Uint64() >> uint(r.Intn(64)) * uint64(r.Intn(2))}
		switch r.Intn(10) {
		case 0:
			bips = 0
		case 1:
			bips = api.MaxBips
		case 2:
			a = wad.Most()
		}
		want := new(big.Int).Mul(toBig(a), big.NewInt(int64(bips)))
		want.Div(want, big.NewInt(10000))
		part, rest, ok := split.Parts(bips, a)
		sum, _ := u256.Add(part, rest)
		if !ok || toBig(part).Cmp(want) != 0 || sum != a {
			t.Fatal(bips, a, part, rest, ok)
		}
	}
	over, _ := u256.Add(wad.Most(), u256.Of(1))
	for _, c := range []struct {
		bips int
		a    api.U
	}{{-1, u256.Of(5)}, {10001, u256.Of(5)}, {math.MinInt, u256.Of(5)}, {math.MaxInt, u256.Of(5)}, {5, over}, {0, over}, {10000, over}, {0, api.U{0, 0, 0, 1}}} {
		if a, b, ok := split.Parts(c.bips, c.a); ok || a != (api.U{}) || b != (api.U{}) {
			t.Error(c, a, b)
		}
	}
}

func TestNoStore(t *testing.T) {
	for _, s := range []*store.Store{nil, {}} {
		if split.Set(s, 7, 9, -1, -1, -1) != api.ErrMade || split.Get(s, 7, 9, 5) != 1000 {
			t.Error("something is there")
		}
	}
}
