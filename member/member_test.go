package member_test

import (
	"math"
	"math/rand"
	"slices"
	"testing"

	"tallage/api"
	"tallage/keys"
	"tallage/member"
	"tallage/roster"
	"tallage/service"
	"tallage/store"
	"tallage/vault"
)

// filled tells a store with two sets of the service 9, and the operators 5 to 7.
func filled(t *testing.T) *store.Store {
	t.Helper()
	s := store.New()
	vault.New(s, 1)
	service.Register(s, 9)
	service.New(s, 9, []int{1})
	service.New(s, 9, []int{1})
	for operator := 5; operator <= 7; operator++ {
		roster.Register(s, operator)
	}
	return s
}

func TestExample(t *testing.T) {
	s := filled(t)
	if e := member.Join(s, 9, 0, 5, 1); e != api.OK || !member.In(s, 9, 0, 5) {
		t.Fatal("Join", e)
	}
	if v, ok := s.Get(keys.Key(24, 9, 0, 5)); !ok || v != keys.Num(1)+keys.Num(0) {
		t.Errorf("%q", v)
	}
	for _, block := range []int{0, 5, math.MaxInt, math.MinInt} {
		if !member.Slashable(s, 9, 0, 5, block) {
			t.Error("one that is in it", block)
		}
	}
	if until, ok := member.Until(s, 9, 0, 5); until != 0 || ok {
		t.Error("Until", until, ok)
	}
	if e := member.Leave(s, 9, 0, 5, 5, 3); e != api.OK || member.In(s, 9, 0, 5) {
		t.Fatal("Leave", e)
	}
	if v, ok := s.Get(keys.Key(24, 9, 0, 5)); !ok || v != keys.Num(2)+keys.Num(8) {
		t.Errorf("%q", v)
	}
	if until, ok := member.Until(s, 9, 0, 5); until != 8 || !ok {
		t.Error("Until", until, ok)
	}
	for block, want := range map[int]bool{math.MinInt: true, 0: true, 7: true, 8: true, 9: false, math.MaxInt: false} {
		if member.Slashable(s, 9, 0, 5, block) != want {
			t.Error("one that left", block)
		}
	}
	mark := s.Mark()
	for _, block := range []int{8, 0, -1} {
		if e := member.Join(s, 9, 0, 5, block); e != api.ErrState || s.Mark() != mark {
			t.Error("Join at", block, e)
		}
	}
	if e := member.Join(s, 9, 0, 5, 9); e != api.OK || !member.In(s, 9, 0, 5) || !member.Slashable(s, 9, 0, 5, 100) {
		t.Error("Join again", e)
	}
}

func TestErrors(t *testing.T) {
	s := filled(t)
	member.Join(s, 9, 0, 5, 1)
	member.Join(s, 9, 0, 6, 1)
	member.Leave(s, 9, 0, 6, 5, 3)
	mark := s.Mark()
	for _, c := range []struct {
		service, set, operator, block int
		e                             api.Errno
	}{{9, 2, 5, 1, api.ErrNone}, {9, -1, 5, 1, api.ErrNone}, {8, 0, 5, 1, api.ErrNone}, {9, 0, 8, 1, api.ErrNone}, {9, 0, 0, 1, api.ErrNone}, {9, 0, -5, 1, api.ErrNone}, {9, 0, 5, 1, api.ErrExists}, {9, 0, 6, 8, api.ErrState}} {
		if e := member.Join(s, c.service, c.set, c.operator, c.block); e != c.e || s.Mark() != mark {
			t.Errorf("Join %v: %v", c, e)
		}
	}
	for _, c := range []struct {
		service, set, operator, block, tail int
		e                                   api.Errno
	}{
		{9, 1, 5, 1, 1, api.ErrNone}, {9, 0, 6, 6, 1, api.ErrNone}, {9, 0, 7, -1, 1, api.ErrNone}, {-9, 0, 5, 1, 1, api.ErrNone}, {9, 0, 5, -1, 1, api.ErrArg}, {9, 0, 5, 1, -1, api.ErrArg},
		{9, 0, 5, api.MaxBlock + 1, 1, api.ErrArg}, {9, 0, 5, 1, api.MaxBlock + 1, api.ErrArg}, {9, 0, 5, math.MaxInt, math.MaxInt, api.ErrArg}, {9, 0, 5, math.MinInt, 0, api.ErrArg},
	} {
		if e := member.Leave(s, c.service, c.set, c.operator, c.block, c.tail); e != c.e || s.Mark() != mark {
			t.Errorf("Leave %v: %v", c, e)
		}
	}
	if e := member.Leave(s, 9, 0, 5, api.MaxBlock, api.MaxBlock); e != api.OK {
		t.Error(e)
	}
	if until, ok := member.Until(s, 9, 0, 5); until != 2*api.MaxBlock || !ok {
		t.Error(until, ok)
	}
	if member.In(s, -9, 0, 5) || member.Slashable(s, 9, 0, 7, 1) || member.Slashable(s, 9, -1, 5, 1) || len(member.Members(s, -9, 0))+len(member.Members(s, 9, -1))+len(member.Members(s, 8, 0)) != 0 {
		t.Error("others")
	}
}

func TestBeginning(t *testing.T) {
	s := filled(t)
	member.Join(s, 9, 0, 5, 0)
	if e := member.Leave(s, 9, 0, 5, 0, 0); e != api.OK || !member.Slashable(s, 9, 0, 5, 0) || member.Slashable(s, 9, 0, 5, 1) {
		t.Error(e)
	}
}

func TestMembers(t *testing.T) {
	r := rand.New(rand.NewSource(1))
	s := filled(t)
	in := map[[2]int]bool{}
	until := map[[2]int]int{}
	for block := range 2000 {
		at := [2]int{r.Intn(2), 5 + r.Intn(3)}
		if r.Intn(2) == 0 {
			last, left := until[at]
			ok := !in[at] && (!left || block > last)
			if (member.Join(s, 9, at[0], at[1], block) == api.OK) != ok {
				t.Fatal("Join", block, at)
			}
			if ok {
				in[at] = true
				delete(until, at)
			}
		} else {
			tail := r.Intn(9)
			if (member.Leave(s, 9, at[0], at[1], block, tail) == api.OK) != in[at] {
				t.Fatal("Leave", block, at)
			}
			if in[at] {
				delete(in, at)
				until[at] = block + tail
			}
		}
		for set := range 2 {
			var want []int
			for operator := 5; operator <= 7; operator++ {
				at := [2]int{set, operator}
				last, left := until[at]
				if member.Slashable(s, 9, set, operator, block) != (in[at] || left && block <= last) {
					t.Fatal("Slashable", block, at)
				}
				if in[at] {
					want = append(want, operator)
				}
			}
			if got := member.Members(s, 9, set); !slices.Equal(got, want) {
				t.Fatal(got, want)
			}
		}
	}
}

func TestNoStore(t *testing.T) {
	for _, s := range []*store.Store{nil, {}} {
		if member.Join(s, 9, 0, 5, 1) != api.ErrMade || member.Leave(s, 9, 0, 5, -1, 1) != api.ErrMade {
			t.Error("errors")
		}
		until, ok := member.Until(s, 9, 0, 5)
		if until != 0 || ok || member.In(s, 9, 0, 5) || member.Slashable(s, 9, 0, 5, 1) || len(member.Members(s, 9, 0)) != 0 {
			t.Error("something is there")
		}
	}
}
