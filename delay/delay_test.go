package delay_test

import (
	"math"
	"math/rand"
	"slices"
	"testing"

	"tallage/api"
	"tallage/delay"
	"tallage/keys"
	"tallage/store"
)

var id = []int{7, 1}

func TestExample(t *testing.T) {
	s := store.New()
	if v := delay.Get(s, 25, id); v != (delay.Value{}) {
		t.Error(v)
	}
	if e := delay.Set(s, 25, id, 5, 10, 3); e != api.OK {
		t.Fatal(e)
	}
	v := delay.Get(s, 25, id)
	if v != (delay.Value{Next: 5, At: 13, More: true}) {
		t.Error(v)
	}
	if got, _ := s.Get(keys.Key(25, 7, 1)); got != keys.Num(0)+keys.Num(0)+keys.Num(1)+keys.Num(5)+keys.Num(13) {
		t.Errorf("%q", got)
	}
	for block, want := range map[int]bool{0: false, 12: false, 13: true, math.MaxInt: true, math.MinInt: false} {
		if n, ok := delay.Of(v, block); ok != want || ok && n != 5 || !ok && n != 0 {
			t.Error(block, n, ok)
		}
	}
	if got := delay.Settle(v, 12); got != v {
		t.Error(got)
	}
	if got := delay.Settle(v, 13); got != (delay.Value{Has: true, Now: 5}) {
		t.Error(got)
	}
	// What is set meanwhile takes the place of what waits.
	delay.Set(s, 25, id, 6, 12, 3)
	if v := delay.Get(s, 25, id); v != (delay.Value{Next: 6, At: 15, More: true}) {
		t.Error(v)
	}
	delay.Set(s, 25, id, 7, 15, 4)
	if v := delay.Get(s, 25, id); v != (delay.Value{Has: true, Now: 6, Next: 7, At: 19, More: true}) {
		t.Error(v)
	}
	if got, _ := s.Get(keys.Key(25, 7, 1)); got != keys.Num(1)+keys.Num(6)+keys.Num(1)+keys.Num(7)+keys.Num(19) {
		t.Errorf("%q", got)
	}
	delay.Set(s, 25, id, 8, 16, 0)
	if v := delay.Get(s, 25, id); v != (delay.Value{Has: true, Now: 8}) {
		t.Error("without a wait", v)
	}
}

func TestErrors(t *testing.T) {
	s := store.New()
	for _, c := range []struct {
		table              int
		id                 []int
		value, block, wait int
	}{
		{0, id, 1, 1, 1}, {256, id, 1, 1, 1}, {25, []int{-1}, 1, 1, 1}, {25, id, -1, 1, 1}, {25, id, 1, -1, 1}, {25, id, 1, 1, -1}, {25, id, api.MaxBlock + 1, 1, 1},
		{25, id, 1, api.MaxBlock + 1, 1}, {25, id, 1, 1, api.MaxBlock + 1}, {25, id, math.MaxInt, math.MaxInt, math.MaxInt}, {25, id, 1, math.MinInt, math.MinInt},
	} {
		if e := delay.Set(s, c.table, c.id, c.value, c.block, c.wait); e != api.ErrArg || s.Mark() != 0 {
			t.Errorf("%v: %v", c, e)
		}
		if v := delay.Get(s, c.table, c.id); v != (delay.Value{}) {
			t.Error(v)
		}
	}
	if e := delay.Set(s, 25, nil, api.MaxBlock, api.MaxBlock, api.MaxBlock); e != api.OK {
		t.Error(e)
	}
	if v := delay.Get(s, 25, nil); v != (delay.Value{Next: api.MaxBlock, At: 2 * api.MaxBlock, More: true}) {
		t.Error(v)
	}
	for _, v := range []string{"", "1", keys.Num(1), keys.Num(1) + keys.Num(1) + keys.Num(1) + keys.Num(1)} {
		s.Set(keys.Key(25, 7, 1), v)
		if got := delay.Get(s, 25, id); got != (delay.Value{}) {
			t.Errorf("%q: %v", v, got)
		}
	}
}

func TestValues(t *testing.T) {
	for _, c := range []struct {
		v     delay.Value
		block int
		want  delay.Value
		n     int
		ok    bool
	}{
		{delay.Value{}, 5, delay.Value{}, 0, false},
		{delay.Value{Has: true, Now: 3}, 5, delay.Value{Has: true, Now: 3}, 3, true},
		{delay.Value{Has: true, Now: 3, Next: 4, At: 5}, 5, delay.Value{Has: true, Now: 3, Next: 4, At: 5}, 3, true},
		{delay.Value{Has: true, Now: 3, Next: 4, At: 6, More: true}, 5, delay.Value{Has: true, Now: 3, Next: 4, At: 6, More: true}, 3, true},
		{delay.Value{Has: true, Now: 3, Next: 4, At: 5, More: true}, 5, delay.Value{Has: true, Now: 4}, 4, true},
		{delay.Value{Next: 4, At: -9, More: true}, -9, delay.Value{Has: true, Now: 4}, 4, true},
		{delay.Value{Next: math.MinInt, At: math.MinInt, More: true}, math.MinInt, delay.Value{Has: true, Now: math.MinInt}, math.MinInt, true},
	} {
		n, ok := delay.Of(c.v, c.block)
		if got := delay.Settle(c.v, c.block); got != c.want || n != c.n || ok != c.ok {
			t.Errorf("%v: %v %d %v", c.v, got, n, ok)
		}
	}
}

// TestModel holds Of, at each block, against what was set.
func TestModel(t *testing.T) {
	type set struct{ value, block, at int }
	for seed := range int64(50) {
		r := rand.New(rand.NewSource(seed))
		s := store.New()
		var sets []set
		for block := range 60 {
			if r.Intn(4) == 0 {
				c := set{r.Intn(9), block, block + r.Intn(6)}
				if delay.Set(s, 25, id, c.value, block, c.at-block) != api.OK {
					t.Fatal("Set")
				}
				sets = append(sets, c)
			}
			// The last one that counted ahead of the next one being set counts.
			want, is := 0, false
			for i, c := range sets {
				last := block
				if i+1 < len(sets) {
					last = min(last, sets[i+1].block)
				}
				if c.at <= last {
					want, is = c.value, true
				}
			}
			if n, ok := delay.Of(delay.Get(s, 25, id), block); n != want || ok != is {
				t.Fatal(seed, block, n, ok, want, is)
			}
		}
	}
}

func TestArguments(t *testing.T) {
	room := []int{7, 1, 99}
	s := store.New()
	delay.Set(s, 25, room[:2], 1, 1, 1)
	delay.Get(s, 25, room[:2])
	if !slices.Equal(room, []int{7, 1, 99}) {
		t.Error(room)
	}
}

func TestNoStore(t *testing.T) {
	for _, s := range []*store.Store{nil, {}} {
		if delay.Set(s, 25, id, 1, 1, 1) != api.ErrMade || delay.Set(s, 0, id, -1, 1, 1) != api.ErrMade || delay.Get(s, 25, id) != (delay.Value{}) {
			t.Error("something is there")
		}
	}
}
