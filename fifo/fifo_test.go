package fifo_test

import (
	"math"
	"math/rand"
	"slices"
	"testing"

	"tallage/api"
	"tallage/fifo"
	"tallage/keys"
	"tallage/store"
)

var id = []int{7, 1}

func TestEntries(t *testing.T) {
	s := store.New()
	if fifo.Push(s, 33, id, 8, []int{1, 2}) != api.OK || fifo.Push(s, 33, id, 8, []int{3}) != api.OK {
		t.Fatal("Push")
	}
	want := []api.Pair{
		{Key: keys.Key(33, 7, 1), Value: keys.Num(0) + keys.Num(2)},
		{Key: keys.Key(33, 7, 1, 0), Value: keys.Num(1) + keys.Num(2)},
		{Key: keys.Key(33, 7, 1, 1), Value: keys.Num(3)},
	}
	if got := s.All(); !slices.Equal(got, want) {
		t.Errorf("%q", got)
	}
	if l, ok := fifo.Pop(s, 33, id); !ok || !slices.Equal(l, []int{1, 2}) || fifo.Len(s, 33, id) != 1 {
		t.Error("Pop", l, ok)
	}
	want = []api.Pair{{Key: keys.Key(33, 7, 1), Value: keys.Num(1) + keys.Num(2)}, want[2]}
	if got := s.All(); !slices.Equal(got, want) {
		t.Errorf("behind Pop: %q", got)
	}
	if l, ok := fifo.Pop(s, 33, id); !ok || !slices.Equal(l, []int{3}) || s.Len() != 0 {
		t.Error("the last one", l, ok, s.Len())
	}
	fifo.Push(s, 33, id, 8, []int{4})
	if _, ok := s.Get(keys.Key(33, 7, 1, 0)); !ok {
		t.Error("the numbers do not begin at 0 again")
	}
}

func TestGood(t *testing.T) {
	for _, l := range [][]int{{0}, {1, 0, math.MaxInt}} {
		if !fifo.Good(l) {
			t.Error(l)
		}
	}
	for _, l := range [][]int{nil, {}, {-1}, {1, 2, math.MinInt}} {
		if fifo.Good(l) {
			t.Error(l)
		}
	}
}

func TestErrors(t *testing.T) {
	s := store.New()
	for _, c := range []struct {
		table int
		id    []int
		most  int
		l     []int
	}{
		{0, id, 1, []int{1}}, {256, id, 1, []int{1}}, {33, []int{-1}, 1, []int{1}}, {33, id, 0, []int{1}}, {33, id, math.MinInt, []int{1}},
		{33, id, 1, nil}, {33, id, 1, []int{}}, {33, id, 1, []int{1, -1}},
	} {
		if e := fifo.Push(s, c.table, c.id, c.most, c.l); e != api.ErrArg || s.Mark() != 0 {
			t.Errorf("%v: %v", c, e)
		}
	}
	for i := range 3 {
		if e := fifo.Push(s, 33, id, 3, []int{i}); e != api.OK {
			t.Error(e)
		}
	}
	mark := s.Mark()
	for most := 1; most <= 3; most++ {
		if e := fifo.Push(s, 33, id, most, []int{9}); e != api.ErrFull || s.Mark() != mark {
			t.Error("full", e)
		}
	}
	if e := fifo.Push(s, 33, id, 3, nil); e != api.ErrArg {
		t.Error("ErrArg comes ahead of ErrFull", e)
	}
	if e := fifo.Push(s, 33, id, 4, []int{9}); e != api.OK {
		t.Error(e)
	}
	for _, none := range [][]int{{8, 1}, nil, {-1}} {
		mark := s.Mark()
		l, ok := fifo.Peek(s, 33, none)
		m, is := fifo.Pop(s, 33, none)
		if ok || is || len(l)+len(m)+len(fifo.All(s, 33, none))+fifo.Len(s, 33, none) != 0 || s.Mark() != mark {
			t.Error("an empty queue", none)
		}
	}
}

func TestModel(t *testing.T) {
	r := rand.New(rand.NewSource(1))
	s := store.New()
	var want [][]int
	for range 5000 {
		if r.Intn(2) == 0 {
			l := make([]int, 1+r.Intn(3))
			for i := range l {
				l[i] = r.Intn(9)
			}
			e := fifo.Push(s, 33, id, 8, l)
			if (e == api.OK) != (len(want) < 8) || e != api.OK && e != api.ErrFull {
				t.Fatal(e)
			}
			if e == api.OK {
				want = append(want, slices.Clone(l))
			}
			clear(l)
		} else {
			head, is := fifo.Peek(s, 33, id)
			l, ok := fifo.Pop(s, 33, id)
			if ok != (len(want) > 0) || is != ok || !slices.Equal(head, l) || ok && !slices.Equal(l, want[0]) {
				t.Fatal(l, ok, want)
			}
			if ok {
				want = want[1:]
			}
		}
		if got := fifo.All(s, 33, id); !slices.EqualFunc(got, want, slices.Equal) || fifo.Len(s, 33, id) != len(want) {
			t.Fatal(got, want)
		}
		if len(want) == 0 && s.Len() != 0 {
			t.Fatal("an empty queue has entries")
		}
	}
}

func TestArguments(t *testing.T) {
	s := store.New()
	room := []int{7, 1, 99}
	fifo.Push(s, 33, room[:2], 8, room[:1])
	fifo.Push(s, 33, room[:2], 8, room[:1])
	all := fifo.All(s, 33, room[:2])
	fifo.Pop(s, 33, room[:2])
	if !slices.Equal(room, []int{7, 1, 99}) {
		t.Error(room)
	}
	_ = append(all[0], 5)
	all[0][0] = 5
	if all[1][0] != 7 {
		t.Error("rows share memory")
	}
}

func TestNoStore(t *testing.T) {
	for _, s := range []*store.Store{nil, {}} {
		if fifo.Push(s, 33, id, 8, []int{1}) != api.ErrMade || fifo.Push(s, 0, nil, 0, nil) != api.ErrMade {
			t.Error("Push")
		}
		l, ok := fifo.Peek(s, 33, id)
		m, is := fifo.Pop(s, 33, id)
		if ok || is || len(l)+len(m)+len(fifo.All(s, 33, id))+fifo.Len(s, 33, id) != 0 {
			t.Error("something is there")
		}
	}
}
