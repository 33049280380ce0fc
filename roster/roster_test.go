package roster_test

import (
	"math"
	"math/rand"
	"slices"
	"testing"

	"tallage/api"
	"tallage/keys"
	"tallage/roster"
	"tallage/store"
)

func TestExample(t *testing.T) {
	s := store.New()
	if roster.Register(s, 7) != api.OK || roster.Of(s, 7) != 7 || !roster.Is(s, 7) {
		t.Error("Register")
	}
	if roster.Choose(s, 8, 7) != api.OK || roster.Of(s, 8) != 7 || roster.Is(s, 8) {
		t.Error("Choose")
	}
	want := []api.Pair{{Key: keys.Key(8, 7), Value: keys.Num(1)}, {Key: keys.Key(9, 7), Value: keys.Num(7)}, {Key: keys.Key(9, 8), Value: keys.Num(7)}}
	if got := s.All(); !slices.Equal(got, want) {
		t.Errorf("%q", got)
	}
	if roster.Leave(s, 8) != api.OK || roster.Of(s, 8) != 0 || roster.Leave(s, 7) != api.ErrState || s.Len() != 2 {
		t.Error("Leave")
	}
}

func TestErrors(t *testing.T) {
	s := store.New()
	roster.Register(s, 7)
	roster.Choose(s, 8, 7)
	mark := s.Mark()
	for _, c := range []struct {
		account int
		e       api.Errno
	}{{0, api.ErrArg}, {-1, api.ErrArg}, {api.MaxAccount + 1, api.ErrArg}, {math.MinInt, api.ErrArg}, {math.MaxInt, api.ErrArg}, {7, api.ErrExists}, {8, api.ErrState}} {
		if e := roster.Register(s, c.account); e != c.e || s.Mark() != mark {
			t.Errorf("Register(%d): %v", c.account, e)
		}
	}
	for _, c := range []struct {
		staker, operator int
		e                api.Errno
	}{{0, 0, api.ErrArg}, {-1, 7, api.ErrArg}, {api.MaxAccount + 1, 7, api.ErrArg}, {9, 8, api.ErrNone}, {9, 0, api.ErrNone}, {9, -7, api.ErrNone}, {8, 9, api.ErrNone}, {8, 7, api.ErrState}, {7, 7, api.ErrState}} {
		if e := roster.Choose(s, c.staker, c.operator); e != c.e || s.Mark() != mark {
			t.Errorf("Choose(%d, %d): %v", c.staker, c.operator, e)
		}
	}
	for _, c := range []struct {
		staker int
		e      api.Errno
	}{{9, api.ErrNone}, {0, api.ErrNone}, {-1, api.ErrNone}, {math.MaxInt, api.ErrNone}, {7, api.ErrState}} {
		if e := roster.Leave(s, c.staker); e != c.e || s.Mark() != mark {
			t.Errorf("Leave(%d): %v", c.staker, e)
		}
	}
	if roster.Register(s, api.MaxAccount) != api.OK || roster.Choose(s, 1, api.MaxAccount) != api.OK {
		t.Error("the ends")
	}
	for _, account := range []int{0, -1, 8, 9, math.MinInt, math.MaxInt} {
		if roster.Is(s, account) || len(roster.Stakers(s, account)) != 0 {
			t.Error("no operator", account)
		}
	}
}

func TestModel(t *testing.T) {
	r := rand.New(rand.NewSource(1))
	s := store.New()
	is, of := map[int]bool{}, map[int]int{}
	for range 4000 {
		a, b := 1+r.Intn(300), 1+r.Intn(300)
		switch r.Intn(8) {
		case 0:
			if (roster.Register(s, a) == api.OK) != (of[a] == 0) {
				t.Fatal("Register", a)
			}
			if of[a] == 0 {
				is[a], of[a] = true, a
			}
		case 1, 2, 3, 4:
			ok := is[b] && of[a] == 0
			if (roster.Choose(s, a, b) == api.OK) != ok {
				t.Fatal("Choose", a, b)
			}
			if ok {
				of[a] = b
			}
		default:
			ok := of[a] != 0 && !is[a]
			if (roster.Leave(s, a) == api.OK) != ok {
				t.Fatal("Leave", a)
			}
			if ok {
				of[a] = 0
			}
		}
		if r.Intn(100) > 0 {
			continue
		}
		var operators []int
		stakers := map[int][]int{}
		for x := range 301 {
			if roster.Of(s, x) != of[x] || roster.Is(s, x) != is[x] {
				t.Fatal(x)
			}
			if is[x] {
				operators = append(operators, x)
			}
			if of[x] != 0 {
				stakers[of[x]] = append(stakers[of[x]], x)
			}
		}
		if got := roster.Operators(s); !slices.Equal(got, operators) {
			t.Fatal(got, operators)
		}
		for x := range 301 {
			if got := roster.Stakers(s, x); !slices.Equal(got, stakers[x]) {
				t.Fatal(x, got, stakers[x])
			}
		}
	}
}

func TestNoStore(t *testing.T) {
	for _, s := range []*store.Store{nil, {}} {
		if roster.Register(s, 0) != api.ErrMade || roster.Choose(s, 0, 0) != api.ErrMade || roster.Leave(s, 0) != api.ErrMade {
			t.Error("errors")
		}
		if roster.Is(s, 7) || roster.Of(s, 7) != 0 || len(roster.Stakers(s, 7)) != 0 || len(roster.Operators(s)) != 0 {
			t.Error("something is there")
		}
	}
}
