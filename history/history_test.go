package history_test

import (
	"math"
	"math/rand"
	"slices"
	"testing"

	"tallage/api"
	"tallage/history"
	"tallage/keys"
	"tallage/store"
	"tallage/u256"
)

var id = []int{7, 1}

func TestExample(t *testing.T) {
	s := store.New()
	if history.Push(s, 13, id, 5, u256.Of(10)) != api.OK || history.Push(s, 13, id, 7, u256.Of(20)) != api.OK {
		t.Fatal("Push")
	}
	for _, c := range []struct {
		block int
		a     uint64
		ok    bool
	}{{4, 0, false}, {5, 10, true}, {6, 10, true}, {7, 20, true}, {math.MaxInt, 20, true}, {-1, 0, false}, {math.MinInt, 0, false}} {
		if a, ok := history.At(s, 13, id, c.block); a != u256.Of(c.a) || ok != c.ok {
			t.Errorf("At(%d): %v %v", c.block, a, ok)
		}
	}
	want := []api.Pair{
		{Key: keys.Key(13, 7, 1), Value: keys.Num(2)},
		{Key: keys.Key(13, 7, 1, 0), Value: keys.Num(5) + keys.Amount(u256.Of(10))},
		{Key: keys.Key(13, 7, 1, 1), Value: keys.Num(7) + keys.Amount(u256.Of(20))},
	}
	if got := s.All(); !slices.Equal(got, want) {
		t.Errorf("the store has %q", got)
	}
}

func TestPush(t *testing.T) {
	s := store.New()
	for _, c := range []struct {
		table int
		id    []int
		block int
		e     api.Errno
	}{
		{0, id, 5, api.ErrArg}, {256, id, 5, api.ErrArg}, {13, []int{-1}, 5, api.ErrArg}, {13, id, -1, api.ErrArg},
		{13, id, api.MaxBlock + 1, api.ErrArg}, {13, id, math.MaxInt, api.ErrArg}, {13, id, math.MinInt, api.ErrArg},
	} {
		if e := history.Push(s, c.table, c.id, c.block, u256.Of(1)); e != c.e || s.Mark() != 0 {
			t.Errorf("Push(%d, %v, %d): %v", c.table, c.id, c.block, e)
		}
	}
	if a, ok := history.Last(s, 13, id); ok || a != (api.U{}) || history.Len(s, 13, id) != 0 {
		t.Error("something is there")
	}
	steps := []struct {
		block   int
		a       uint64
		e       api.Errno
		blocks  []int
		amounts []api.U
	}{
		{0, 0, api.OK, []int{0}, []api.U{{}}},
		{3, 0, api.OK, []int{0}, []api.U{{}}}, // the same again: nothing changes
		{3, 8, api.OK, []int{0, 3}, []api.U{{}, {8}}},
		{3, 0, api.OK, []int{0, 3}, []api.U{{}, {}}}, // of one block: it is that now
		{2, 1, api.ErrState, []int{0, 3}, []api.U{{}, {}}},
		{3, 9, api.OK, []int{0, 3}, []api.U{{}, {9}}},
		{api.MaxBlock, 1, api.OK, []int{0, 3, api.MaxBlock}, []api.U{{}, {9}, {1}}},
		{api.MaxBlock - 1, 1, api.ErrState, []int{0, 3, api.MaxBlock}, []api.U{{}, {9}, {1}}},
	}
	for i, c := range steps {
		mark := s.Mark()
		if e := history.Push(s, 13, id, c.block, u256.Of(c.a)); e != c.e || e != api.OK && s.Mark() != mark {
			t.Errorf("step %d: %v", i, e)
		}
		blocks, amounts := history.List(s, 13, id)
		if !slices.Equal(blocks, c.blocks) || !slices.Equal(amounts, c.amounts) || history.Len(s, 13, id) != len(blocks) {
			t.Errorf("step %d: %v %v", i, blocks, amounts)
		}
		if a, ok := history.Last(s, 13, id); !ok || a != c.amounts[len(c.amounts)-1] {
			t.Errorf("step %d: Last %v %v", i, a, ok)
		}
	}
}

// TestApart: histories of other ids and tables are others.
func TestApart(t *testing.T) {
	s := store.New()
	history.Push(s, 13, []int{1, 2}, 5, u256.Of(1))
	history.Push(s, 13, []int{1, 3}, 6, u256.Of(2))
	history.Push(s, 16, []int{1, 2}, 7, u256.Of(3))
	for _, c := range []struct {
		table int
		id    []int
		a     uint64
	}{{13, []int{1, 2}, 1}, {13, []int{1, 3}, 2}, {16, []int{1, 2}, 3}} {
		if a, ok := history.Last(s, c.table, c.id); !ok || a != u256.Of(c.a) || history.Len(s, c.table, c.id) != 1 {
			t.Errorf("%d %v: %v", c.table, c.id, a)
		}
	}
	history.Push(s, 20, nil, 1, u256.Of(4))
	if a, ok := history.At(s, 20, nil, 1); !ok || a != u256.Of(4) {
		t.Error("an id without numbers", a, ok)
	}
}

// TestArguments: an id stays as it is, and so does the room behind its end.
func TestArguments(t *testing.T) {
	s := store.New()
	room := []int{7, 1, 99, 99}
	history.Push(s, 13, room[:2], 5, u256.Of(1))
	history.At(s, 13, room[:2], 5)
	history.Last(s, 13, room[:2])
	history.List(s, 13, room[:2])
	if !slices.Equal(room, []int{7, 1, 99, 99}) {
		t.Error(room)
	}
}

// TestModel holds At against all that was pushed.
func TestModel(t *testing.T) {
	r := rand.New(rand.NewSource(1))
	for range 60 {
		s := store.New()
		var blocks []int
		var amounts []api.U
		block := 0
		for range r.Intn(60) {
			block += r.Intn(3)
			a := u256.Of(uint64(r.Intn(3)))
			if e := history.Push(s, 13, id, block, a); e != api.OK {
				t.Fatal(e)
			}
			blocks, amounts = append(blocks, block), append(amounts, a)
		}
		for at := -1; at <= block+1; at++ {
			want, is := api.U{}, false
			for i := range blocks {
				if blocks[i] <= at {
					want, is = amounts[i], true
				}
			}
			if a, ok := history.At(s, 13, id, at); a != want || ok != is {
				t.Fatalf("At(%d): %v %v, want %v %v of %v %v", at, a, ok, want, is, blocks, amounts)
			}
		}
	}
}

func TestNoStore(t *testing.T) {
	for _, s := range []*store.Store{nil, {}} {
		if history.Push(s, 13, id, 5, u256.Of(1)) != api.ErrMade {
			t.Error("Push")
		}
		a, ok := history.At(s, 13, id, 5)
		b, is := history.Last(s, 13, id)
		blocks, amounts := history.List(s, 13, id)
		if ok || is || a != b || a != (api.U{}) || history.Len(s, 13, id) != 0 || len(blocks)+len(amounts) != 0 {
			t.Error("something is there")
		}
	}
}
