package service_test

import (
	"math"
	"math/rand"
	"slices"
	"testing"

	"tallage/api"
	"tallage/keys"
	"tallage/service"
	"tallage/store"
	"tallage/vault"
)

// filled tells a store with strategies 1 to n, and the service 9.
func filled(t *testing.T, n int) *store.Store {
	t.Helper()
	s := store.New()
	for range n {
		vault.New(s, 1)
	}
	if e := service.Register(s, 9); e != api.OK {
		t.Fatal(e)
	}
	return s
}

func TestRegister(t *testing.T) {
	s := filled(t, 0)
	if !service.Is(s, 9) || service.Is(s, 8) || service.Is(s, 0) || service.Is(s, -9) {
		t.Error("Is")
	}
	if got := s.All(); !slices.Equal(got, []api.Pair{{Key: keys.Key(21, 9), Value: keys.Num(1)}}) {
		t.Errorf("%q", got)
	}
	for account, want := range map[int]api.Errno{0: api.ErrArg, -1: api.ErrArg, api.MaxAccount + 1: api.ErrArg, math.MinInt: api.ErrArg, math.MaxInt: api.ErrArg, 9: api.ErrExists} {
		if e := service.Register(s, account); e != want || s.Mark() != 1 {
			t.Error(account, e)
		}
	}
	if e := service.Register(s, api.MaxAccount); e != api.OK {
		t.Error(e)
	}
}

func TestRise(t *testing.T) {
	for _, l := range [][]int{{1}, {0}, {-5, 3}, {1, 2, 3, 4, 5, 6, 7, 8}, {math.MinInt, math.MaxInt}} {
		if !service.Rise(l) {
			t.Error(l)
		}
	}
	for _, l := range [][]int{nil, {}, {1, 1}, {2, 1}, {1, 3, 2}, {1, 2, 3, 4, 5, 6, 7, 8, 9}, {math.MaxInt, math.MinInt}} {
		if service.Rise(l) {
			t.Error(l)
		}
	}
}

func TestExample(t *testing.T) {
	s := filled(t, 3)
	if set, e := service.New(s, 9, []int{1, 3}); set != 0 || e != api.OK {
		t.Fatal("New", set, e)
	}
	if !slices.Equal(service.Strategies(s, 9, 0), []int{1, 3}) || !service.Has(s, 9, 0, 1) || service.Has(s, 9, 0, 2) || service.Sets(s, 9) != 1 || !service.There(s, 9, 0) || service.There(s, 9, 1) {
		t.Error("a set")
	}
	for key, v := range map[string]string{keys.Key(22, 9): keys.Num(1), keys.Key(23, 9, 0, 1): keys.Num(1), keys.Key(23, 9, 0, 3): keys.Num(1)} {
		if got, ok := s.Get(key); !ok || got != v {
			t.Errorf("%q has %q", key, got)
		}
	}
	if e := service.Exclude(s, 9, 0, 1); e != api.OK || !slices.Equal(service.Strategies(s, 9, 0), []int{3}) {
		t.Error("Exclude", e)
	}
	if _, ok := s.Get(keys.Key(23, 9, 0, 1)); ok {
		t.Error("what was excluded is there")
	}
	if e := service.Exclude(s, 9, 0, 3); e != api.OK || len(service.Strategies(s, 9, 0)) != 0 || !service.There(s, 9, 0) {
		t.Error("an empty set", e)
	}
}

func TestNewErrors(t *testing.T) {
	s := filled(t, 9)
	mark := s.Mark()
	for _, c := range []struct {
		service int
		l       []int
		e       api.Errno
	}{
		{8, nil, api.ErrNone}, {0, []int{1}, api.ErrNone}, {-9, []int{1}, api.ErrNone}, {9, nil, api.ErrArg}, {9, []int{1, 1}, api.ErrArg}, {9, []int{99, 1}, api.ErrArg},
		{9, []int{1, 2, 3, 4, 5, 6, 7, 8, 9}, api.ErrArg}, {9, []int{1, 10}, api.ErrNone}, {9, []int{0, 1}, api.ErrNone}, {9, []int{-1, 1}, api.ErrNone},
	} {
		if set, e := service.New(s, c.service, c.l); set != 0 || e != c.e || s.Mark() != mark {
			t.Errorf("%v: %d %v", c, set, e)
		}
	}
	for want := range api.MaxSets {
		if set, e := service.New(s, 9, []int{1 + want%9}); set != want || e != api.OK {
			t.Error(set, e)
		}
	}
	mark = s.Mark()
	if set, e := service.New(s, 9, []int{1}); set != 0 || e != api.ErrFull || s.Mark() != mark {
		t.Error("too many", set, e)
	}
	if _, e := service.New(s, 9, []int{10}); e != api.ErrNone {
		t.Error("ErrNone comes ahead of ErrFull", e)
	}
	service.Register(s, 7)
	if set, e := service.New(s, 7, []int{1, 2, 3, 4, 5, 6, 7, 8}); set != 0 || e != api.OK {
		t.Error("another service", set, e)
	}
}

func TestInclude(t *testing.T) {
	s := filled(t, 10)
	service.New(s, 9, []int{2})
	mark := s.Mark()
	for _, c := range []struct {
		service, set, strategy int
		e                      api.Errno
	}{{8, 0, 1, api.ErrNone}, {9, 1, 1, api.ErrNone}, {9, -1, 1, api.ErrNone}, {9, 0, 11, api.ErrNone}, {9, 0, 0, api.ErrNone}, {9, 0, -1, api.ErrNone}, {9, 0, 2, api.ErrExists}} {
		if e := service.Include(s, c.service, c.set, c.strategy); e != c.e || s.Mark() != mark {
			t.Errorf("%v: %v", c, e)
		}
	}
	for _, c := range [][3]int{{8, 0, 2}, {9, 1, 2}, {9, 0, 1}, {9, -1, 2}, {-9, 0, 2}, {9, 0, -2}} {
		if e := service.Exclude(s, c[0], c[1], c[2]); e != api.ErrNone || s.Mark() != mark {
			t.Errorf("%v: %v", c, e)
		}
	}
	for _, strategy := range []int{9, 8, 7, 6, 5, 4, 3} {
		if e := service.Include(s, 9, 0, strategy); e != api.OK {
			t.Error(strategy, e)
		}
	}
	if got := service.Strategies(s, 9, 0); !slices.Equal(got, []int{2, 3, 4, 5, 6, 7, 8, 9}) {
		t.Error(got)
	}
	mark = s.Mark()
	if service.Include(s, 9, 0, 10) != api.ErrFull || service.Include(s, 9, 0, 9) != api.ErrExists || s.Mark() != mark {
		t.Error("full")
	}
}

func TestModel(t *testing.T) {
	r := rand.New(rand.NewSource(1))
	s := filled(t, 12)
	var sets []map[int]bool
	for range 3000 {
		set, strategy := r.Intn(17), r.Intn(14)
		there := set < len(sets)
		switch r.Intn(30) {
		case 0:
			if got, e := service.New(s, 9, []int{1}); e == api.OK {
				if got != len(sets) {
					t.Fatal(got)
				}
				sets = append(sets, map[int]bool{1: true})
			}
		default:
			if r.Intn(2) == 0 {
				ok := there && strategy >= 1 && strategy <= 12 && !sets[set][strategy] && len(sets[set]) < 8
				if (service.Include(s, 9, set, strategy) == api.OK) != ok {
					t.Fatal("Include", set, strategy)
				}
				if ok {
					sets[set][strategy] = true
				}
			} else {
				ok := there && sets[set][strategy]
				if (service.Exclude(s, 9, set, strategy) == api.OK) != ok {
					t.Fatal("Exclude", set, strategy)
				}
				if ok {
					delete(sets[set], strategy)
				}
			}
		}
		if !there {
			continue
		}
		var want []int
		for i := range 14 {
			if service.Has(s, 9, set, i) != sets[set][i] {
				t.Fatal("Has", set, i)
			}
			if sets[set][i] {
				want = append(want, i)
			}
		}
		if got := service.Strategies(s, 9, set); !slices.Equal(got, want) {
			t.Fatal(got, want)
		}
	}
}

func TestNoStore(t *testing.T) {
	for _, s := range []*store.Store{nil, {}} {
		set, e := service.New(s, 9, nil)
		if set != 0 || e != api.ErrMade || service.Register(s, 0) != api.ErrMade || service.Include(s, 9, 0, 1) != api.ErrNone || service.Exclude(s, 9, 0, 1) != api.ErrNone {
			t.Error("errors")
		}
		if service.Is(s, 9) || service.There(s, 9, 0) || service.Has(s, 9, 0, 1) || service.Sets(s, 9) != 0 || len(service.Strategies(s, 9, 0)) != 0 || len(service.Strategies(s, -9, 0)) != 0 {
			t.Error("something is there")
		}
	}
}
