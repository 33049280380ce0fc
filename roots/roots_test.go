package roots_test

import (
	"math"
	"math/rand"
	"slices"
	"testing"

	"tallage/api"
	"tallage/keys"
	"tallage/roots"
	"tallage/store"
)

var h = api.Hash{1, 31: 2}

func TestExample(t *testing.T) {
	s := store.New()
	if i, e := roots.Post(s, h, 5, 3); i != 0 || e != api.OK || roots.Count(s) != 1 {
		t.Fatal("Post", i, e)
	}
	want := []api.Pair{{Key: keys.Key(36), Value: keys.Num(1)}, {Key: keys.Key(37, 0), Value: keys.Num(1) + keys.Num(8)}, {Key: keys.Key(38, 0), Value: string(h[:])}}
	if got := s.All(); !slices.Equal(got, want) {
		t.Errorf("%q", got)
	}
	if g, block, on, ok := roots.Get(s, 0); g != h || block != 8 || !on || !ok {
		t.Error("Get", g, block, on, ok)
	}
	for block, want := range map[int]api.Errno{8: api.OK, 7: api.ErrState, 9: api.OK, 0: api.ErrState, math.MinInt: api.ErrState, math.MaxInt: api.OK} {
		if g, e := roots.Usable(s, 0, block); e != want || (g == h) != (e == api.OK) || e != api.OK && g != (api.Hash{}) {
			t.Error("Usable", block, g, e)
		}
	}
	mark := s.Mark()
	if e := roots.Disable(s, 0, 8); e != api.ErrState || s.Mark() != mark {
		t.Error("Disable of an active root", e)
	}
	if e := roots.Disable(s, 0, 7); e != api.OK {
		t.Error("Disable", e)
	}
	if v, _ := s.Get(keys.Key(37, 0)); v != keys.Num(2)+keys.Num(8) {
		t.Errorf("%q", v)
	}
	if g, block, on, ok := roots.Get(s, 0); g != h || block != 8 || on || !ok {
		t.Error("Get of a disabled root", g, block, on, ok)
	}
	if g, e := roots.Usable(s, 0, 100); g != (api.Hash{}) || e != api.ErrState {
		t.Error("Usable of a disabled root", e)
	}
	if roots.Disable(s, 0, 7) != api.ErrExists || roots.Disable(s, 0, 100) != api.ErrExists {
		t.Error("Disable twice")
	}
	if i, e := roots.Post(s, api.Hash{}, 0, 0); i != 1 || e != api.OK {
		t.Error("the next one", i, e)
	}
	if g, block, on, ok := roots.Get(s, 1); g != (api.Hash{}) || block != 0 || !on || !ok {
		t.Error("a root of noughts", block, on, ok)
	}
	if roots.Disable(s, 1, 0) != api.ErrState || roots.Disable(s, 1, -1) != api.OK {
		t.Error("Disable at the beginning")
	}
}

func TestErrors(t *testing.T) {
	s := store.New()
	for _, c := range [][2]int{{-1, 0}, {0, -1}, {api.MaxBlock + 1, 0}, {0, api.MaxBlock + 1}, {math.MaxInt, math.MaxInt}, {math.MinInt, 5}} {
		if i, e := roots.Post(s, h, c[0], c[1]); i != 0 || e != api.ErrArg || s.Mark() != 0 {
			t.Error(c, i, e)
		}
	}
	for want := range api.MaxRoots {
		if i, e := roots.Post(s, h, api.MaxBlock, api.MaxBlock); i != want || e != api.OK {
			t.Fatal(i, e)
		}
	}
	mark := s.Mark()
	if i, e := roots.Post(s, h, 1, 1); i != 0 || e != api.ErrFull || s.Mark() != mark {
		t.Error("too many", i, e)
	}
	if _, e := roots.Post(s, h, -1, 1); e != api.ErrArg {
		t.Error("ErrArg comes ahead of ErrFull", e)
	}
	for _, i := range []int{-1, api.MaxRoots, math.MinInt, math.MaxInt} {
		g, block, on, ok := roots.Get(s, i)
		u, e := roots.Usable(s, i, 5)
		if g != (api.Hash{}) || block != 0 || on || ok || u != g || e != api.ErrNone || roots.Disable(s, i, 5) != api.ErrNone {
			t.Error(i)
		}
	}
	if _, block, _, _ := roots.Get(s, 999); block != 2*api.MaxBlock {
		t.Error(block)
	}
}

// TestStays: a root that was active stays so; one that is disabled never is.
func TestStays(t *testing.T) {
	r := rand.New(rand.NewSource(1))
	s := store.New()
	active, gone := map[int]bool{}, map[int]bool{}
	for block := range 300 {
		if r.Intn(3) == 0 {
			roots.Post(s, api.Hash{byte(block)}, block, r.Intn(6))
		}
		i := r.Intn(roots.Count(s) + 1)
		if roots.Disable(s, i, block) == api.OK {
			gone[i] = true
		}
		for i := range roots.Count(s) {
			_, e := roots.Usable(s, i, block)
			if gone[i] && e == api.OK || active[i] && e != api.OK {
				t.Fatal(block, i, e)
			}
			active[i] = e == api.OK
		}
	}
	if len(gone) < 10 {
		t.Error("too few were disabled")
	}
}

func TestNoStore(t *testing.T) {
	for _, s := range []*store.Store{nil, {}} {
		i, e := roots.Post(s, h, -1, 0)
		g, f := roots.Usable(s, 0, 5)
		k, block, on, ok := roots.Get(s, 0)
		if i != 0 || e != api.ErrMade || f != api.ErrNone || roots.Disable(s, 0, 5) != api.ErrNone || g != k || k != (api.Hash{}) || block != 0 || on || ok || roots.Count(s) != 0 {
			t.Error("something is there")
		}
	}
}
