package due_test

import (
	"math"
	"math/rand"
	"slices"
	"testing"

	"tallage/api"
	"tallage/due"
	"tallage/keys"
	"tallage/store"
)

func same(a, b [][]int) bool { return slices.EqualFunc(a, b, slices.Equal) }

func TestEntries(t *testing.T) {
	s := store.New()
	if due.Add(s, 5, []int{1}) != api.OK || due.Add(s, 4, []int{2, 0}) != api.OK || due.Add(s, 5, []int{3}) != api.OK {
		t.Fatal("Add")
	}
	want := []api.Pair{
		{Key: keys.Key(26, 4, 0), Value: keys.Num(2) + keys.Num(0)},
		{Key: keys.Key(26, 5, 0), Value: keys.Num(1)},
		{Key: keys.Key(26, 5, 1), Value: keys.Num(3)},
		{Key: keys.Key(27), Value: keys.Num(3)},
	}
	if got := s.All(); !slices.Equal(got, want) {
		t.Errorf("%q", got)
	}
	if block, ok := due.First(s); block != 4 || !ok || due.Len(s) != 3 {
		t.Error("First", block, ok)
	}
	mark := s.Mark()
	if l := due.Take(s, 3); len(l) != 0 || s.Mark() != mark {
		t.Error("Take ahead", l)
	}
	if l := due.Take(s, 4); !same(l, [][]int{{2, 0}}) {
		t.Error("Take(4)", l)
	}
	if block, ok := due.First(s); block != 5 || !ok || due.Len(s) != 2 {
		t.Error("First", block, ok)
	}
	if l := due.Take(s, math.MaxInt); !same(l, [][]int{{1}, {3}}) || s.Len() != 0 {
		t.Error("Take all", l)
	}
	if block, ok := due.First(s); block != 0 || ok || due.Len(s) != 0 {
		t.Error("First of nothing", block, ok)
	}
}

func TestErrors(t *testing.T) {
	s := store.New()
	for _, c := range []struct {
		block int
		l     []int
	}{{-1, []int{1}}, {api.MaxBlock + 1, []int{1}}, {math.MinInt, []int{1}}, {math.MaxInt, []int{1}}, {5, nil}, {5, []int{}}, {5, []int{1, -1}}} {
		if e := due.Add(s, c.block, c.l); e != api.ErrArg || s.Mark() != 0 {
			t.Errorf("%v: %v", c, e)
		}
	}
	if due.Add(s, 0, []int{0}) != api.OK || due.Add(s, api.MaxBlock, []int{math.MaxInt}) != api.OK {
		t.Error("the ends")
	}
	if l := due.Take(s, -1); len(l) != 0 {
		t.Error("ahead of the beginning", l)
	}
	if l := due.Take(s, 0); !same(l, [][]int{{0}}) {
		t.Error("the beginning", l)
	}
}

// TestNumbers: n is one more than the greatest that is there.
func TestNumbers(t *testing.T) {
	s := store.New()
	for i := range 3 {
		due.Add(s, 7, []int{i})
	}
	s.Delete(keys.Key(26, 7, 0))
	due.Add(s, 7, []int{3})
	if _, ok := s.Get(keys.Key(26, 7, 3)); !ok {
		t.Errorf("%q", s.All())
	}
	due.Add(s, 6, []int{4})
	if _, ok := s.Get(keys.Key(26, 6, 0)); !ok {
		t.Errorf("%q", s.All())
	}
}

func TestModel(t *testing.T) {
	r := rand.New(rand.NewSource(1))
	s := store.New()
	type row struct {
		block int
		l     []int
	}
	var want []row
	for now := range 2000 {
		for range r.Intn(3) {
			c := row{now + r.Intn(300), []int{r.Intn(9), now}}
			if due.Add(s, c.block, c.l) != api.OK {
				t.Fatal("Add")
			}
			want = append(want, row{c.block, slices.Clone(c.l)})
			clear(c.l)
		}
		slices.SortStableFunc(want, func(a, b row) int { return a.block - b.block })
		if first, ok := due.First(s); ok != (len(want) > 0) || ok && first != want[0].block {
			t.Fatal("First", first, ok)
		}
		if r.Intn(5) > 0 {
			continue
		}
		got := due.Take(s, now)
		for _, l := range got {
			if want[0].block > now || !slices.Equal(l, want[0].l) {
				t.Fatal(now, l, want[0])
			}
			want = want[1:]
		}
		if len(want) > 0 && want[0].block <= now || due.Len(s) != len(want) {
			t.Fatal("rows are left", now)
		}
	}
}

func TestMemory(t *testing.T) {
	s := store.New()
	room := []int{1, 2, 99}
	due.Add(s, 1, room[:2])
	due.Add(s, 1, room[:2])
	l := due.Take(s, 1)
	_ = append(l[0], 7)
	l[0][0] = 7
	if l[1][0] != 1 || !slices.Equal(room, []int{1, 2, 99}) {
		t.Error(l, room)
	}
}

func TestNoStore(t *testing.T) {
	for _, s := range []*store.Store{nil, {}} {
		if due.Add(s, 5, []int{1}) != api.ErrMade || due.Add(s, -5, nil) != api.ErrMade {
			t.Error("Add")
		}
		block, ok := due.First(s)
		if block != 0 || ok || due.Len(s) != 0 || len(due.Take(s, 9)) != 0 {
			t.Error("something is there")
		}
	}
}
