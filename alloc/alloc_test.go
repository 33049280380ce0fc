package alloc_test

import (
	"math"
	"math/rand"
	"slices"
	"testing"

	"tallage/alloc"
	"tallage/api"
	"tallage/cell"
	"tallage/due"
	"tallage/fifo"
	"tallage/keys"
	"tallage/store"
	"tallage/u256"
	"tallage/wad"
)

const half = 500_000_000_000_000_000

var x = alloc.Id{Operator: 7, Strategy: 1, Service: 9, Set: 0}

func of(n uint64) api.U { return u256.Of(n) }

// to tells the terms by which To comes at once.
func to(a api.U) alloc.Change { return alloc.Change{To: a, Max: wad.One(), Block: 10} }

func modify(t *testing.T, s *store.Store, x alloc.Id, c alloc.Change, want int) {
	t.Helper()
	if block, e := alloc.Modify(s, x, c); e != api.OK || block != want {
		t.Fatalf("Modify %+v: %d %v", c, block, e)
	}
}

func TestExample(t *testing.T) {
	s := store.New()
	c := to(of(half))
	c.Delay = 5
	modify(t, s, x, c, 15)
	if kind, by, block := alloc.Pending(s, x); kind != 1 || by != of(half) || block != 15 || alloc.Current(s, x) != (api.U{}) || alloc.Encumbered(s, 7, 1) != of(half) || alloc.Sum(s, 7, 1) != of(half) {
		t.Error("Pending", kind, by, block)
	}
	want := []api.Pair{
		{Key: keys.Key(26, 15, 0), Value: keys.Num(7) + keys.Num(1) + keys.Num(9) + keys.Num(0)},
		{Key: keys.Key(27), Value: keys.Num(1)},
		{Key: keys.Key(30, 7, 1, 9, 0), Value: keys.Num(1) + keys.Num(15)},
		{Key: keys.Key(31, 7, 1, 9, 0), Value: keys.Amount(of(half))},
		{Key: keys.Key(32, 7, 1), Value: keys.Amount(of(half))},
	}
	if got := s.All(); !slices.Equal(got, want) {
		t.Errorf("%q", got)
	}
	if !alloc.Mature(s, x) || alloc.Current(s, x) != of(half) || alloc.Encumbered(s, 7, 1) != of(half) {
		t.Error("Mature")
	}
	if kind, by, block := alloc.Pending(s, x); kind != 0 || by != (api.U{}) || block != 0 || alloc.Mature(s, x) {
		t.Error("something is pending")
	}
	if got, _ := s.Get(keys.Key(29, 7, 1, 9, 0)); got != keys.Amount(of(half)) {
		t.Errorf("%q", got)
	}
	if part, e := alloc.Cut(s, x, wad.One()); part != of(half) || e != api.OK || alloc.Current(s, x) != (api.U{}) || alloc.Encumbered(s, 7, 1) != (api.U{}) {
		t.Error("Cut", part, e)
	}
}

func TestLess(t *testing.T) {
	s := store.New()
	modify(t, s, x, to(of(half)), 0)
	if alloc.Current(s, x) != of(half) || alloc.Encumbered(s, 7, 1) != of(half) || due.Len(s) != 0 {
		t.Error("at once")
	}
	c := to(of(half / 2))
	c.Tail, c.Slashable = 4, true
	modify(t, s, x, c, 14)
	if kind, by, block := alloc.Pending(s, x); kind != 2 || by != of(half/2) || block != 14 || alloc.Current(s, x) != of(half) || alloc.Encumbered(s, 7, 1) != of(half) || alloc.Sum(s, 7, 1) != of(half) || alloc.Waits(s, 7, 1) != 1 {
		t.Error("Pending", kind, by, block)
	}
	if rows := fifo.All(s, 33, []int{7, 1}); len(rows) != 1 || !slices.Equal(rows[0], []int{9, 0}) {
		t.Error("the queue has", rows)
	}
	if rows := due.Take(s, 14); len(rows) != 1 || !slices.Equal(rows[0], []int{7, 1, 9, 0}) {
		t.Error("due is", rows)
	}
	// What is pending is cut likewise.
	if part, e := alloc.Cut(s, x, of(half)); part != of(half/2) || e != api.OK {
		t.Error("Cut", part, e)
	}
	if _, by, _ := alloc.Pending(s, x); by != of(half/4) || alloc.Current(s, x) != of(half/2) || alloc.Encumbered(s, 7, 1) != of(half/2) {
		t.Error("behind a Cut", by)
	}
	if !alloc.Mature(s, x) || alloc.Current(s, x) != of(half/4) || alloc.Encumbered(s, 7, 1) != of(half/4) || alloc.Waits(s, 7, 1) != 0 {
		t.Error("Mature")
	}
	for _, now := range []alloc.Change{{To: of(3), Slashable: true}, {To: of(2), Tail: 4}, {}} {
		modify(t, s, x, now, 0)
		if alloc.Current(s, x) != now.To || alloc.Encumbered(s, 7, 1) != now.To {
			t.Error("at once", now)
		}
	}
	if s.Len() != 0 {
		t.Errorf("%q", s.All())
	}
}

func TestRounding(t *testing.T) {
	s := store.New()
	modify(t, s, x, to(of(3)), 0)
	modify(t, s, x, alloc.Change{To: of(2), Block: 1, Tail: 1, Slashable: true}, 2)
	if part, e := alloc.Cut(s, x, of(1)); part != of(1) || e != api.OK || alloc.Current(s, x) != of(2) {
		t.Error("a Cut is rounded up", part, e)
	}
	if kind, by, _ := alloc.Pending(s, x); kind != 2 || by != (api.U{}) {
		t.Error("what is pending", kind, by)
	}
	if !alloc.Mature(s, x) || alloc.Current(s, x) != of(2) || alloc.Waits(s, 7, 1) != 0 {
		t.Error("Mature of 0")
	}
}

func TestModifyErrors(t *testing.T) {
	s := store.New()
	modify(t, s, x, to(of(half)), 0)
	y := x
	y.Set = 1
	pending := to(of(half / 2))
	pending.Delay = 1
	modify(t, s, y, pending, 11)
	full := alloc.Id{Operator: 8, Strategy: 1, Service: 9}
	for i := range api.MaxQueue + 1 {
		full.Set = i
		modify(t, s, full, to(of(2)), 0)
		if i < api.MaxQueue {
			modify(t, s, full, alloc.Change{To: of(1), Tail: 1, Slashable: true}, 1)
		}
	}
	over, _ := u256.Add(wad.One(), of(1))
	mark := s.Mark()
	bad := alloc.Change{To: over}
	for i, c := range []struct {
		x alloc.Id
		c alloc.Change
		e api.Errno
	}{
		{alloc.Id{Strategy: 1}, bad, api.ErrArg}, {alloc.Id{Operator: 7}, bad, api.ErrArg}, {alloc.Id{Operator: -1, Strategy: 1}, bad, api.ErrArg}, {alloc.Id{Operator: 7, Strategy: -1}, bad, api.ErrArg},
		{alloc.Id{Operator: 7, Strategy: 1, Service: -1}, bad, api.ErrArg}, {alloc.Id{Operator: 7, Strategy: 1, Set: math.MinInt}, bad, api.ErrArg},
		{x, alloc.Change{To: over, Block: -1}, api.ErrArg}, {x, alloc.Change{To: over, Delay: -1}, api.ErrArg}, {x, alloc.Change{To: over, Tail: -1}, api.ErrArg},
		{x, alloc.Change{To: over, Block: api.MaxBlock + 1}, api.ErrArg}, {x, alloc.Change{To: over, Delay: math.MaxInt}, api.ErrArg}, {x, alloc.Change{To: over, Tail: api.MaxBlock + 1}, api.ErrArg},
		{y, bad, api.ErrRange}, {y, alloc.Change{}, api.ErrPending}, {x, to(of(half)), api.ErrSame}, {alloc.Id{Operator: 1, Strategy: 1}, alloc.Change{}, api.ErrSame},
		{x, to(of(half + half/2 + 1)), api.ErrFunds}, {x, alloc.Change{To: of(half + 1), Max: of(half)}, api.ErrFunds},
		{full, alloc.Change{To: of(1), Tail: 1, Slashable: true}, api.ErrFull},
		{x, alloc.Change{To: of(half + 1), Max: wad.One(), Block: api.MaxBlock, Delay: 1}, api.ErrArg}, {x, alloc.Change{To: of(1), Block: api.MaxBlock, Tail: 1, Slashable: true}, api.ErrArg},
	} {
		if block, e := alloc.Modify(s, c.x, c.c); e != c.e || block != 0 || s.Mark() != mark {
			t.Errorf("%d: %d %v", i, block, e)
		}
	}
	modify(t, s, x, to(of(half+half/2)), 0) // just as much as is left
	modify(t, s, full, alloc.Change{To: of(1), Tail: 1}, 0)
	cell.SetAmount(s, keys.Key(32, 7, 1), of(5))
	mark = s.Mark()
	if block, e := alloc.Modify(s, x, alloc.Change{}); e != api.ErrFunds || block != 0 || s.Mark() != mark {
		t.Error("less is encumbered than goes", e)
	}
	if part, e := alloc.Cut(s, x, wad.One()); e != api.ErrFunds || part != (api.U{}) || s.Mark() != mark {
		t.Error("less is encumbered than is cut", e)
	}
	for _, f := range []api.U{{}, over, wad.Most()} {
		if part, e := alloc.Cut(s, x, f); e != api.ErrArg || part != (api.U{}) || s.Mark() != mark {
			t.Error("Cut", f, e)
		}
	}
	if part, e := alloc.Cut(s, alloc.Id{Operator: -1}, wad.One()); e != api.OK || part != (api.U{}) || s.Mark() != mark {
		t.Error("Cut of nothing", e)
	}
}

// TestLast: all numbers of a change may be as great as a block.
func TestLast(t *testing.T) {
	s := store.New()
	modify(t, s, x, alloc.Change{To: of(5), Max: wad.One(), Block: api.MaxBlock, Tail: api.MaxBlock}, 0)
	y := alloc.Id{Operator: 1, Strategy: 1}
	modify(t, s, y, alloc.Change{To: of(5), Max: wad.One(), Delay: api.MaxBlock}, api.MaxBlock)
}

func TestNone(t *testing.T) {
	s := store.New()
	modify(t, s, x, to(of(half)), 0)
	for _, y := range []alloc.Id{{}, {Operator: -7, Strategy: 1, Service: 9}, {Operator: 7, Strategy: 1, Service: 9, Set: 1}, {Operator: 7, Strategy: 2, Service: 9}} {
		kind, by, block := alloc.Pending(s, y)
		if kind != 0 || by != (api.U{}) || block != 0 || alloc.Current(s, y) != (api.U{}) || alloc.Mature(s, y) {
			t.Error(y)
		}
	}
	for _, at := range [][2]int{{-7, 1}, {7, -1}, {7, 2}, {0, 0}} {
		if alloc.Encumbered(s, at[0], at[1]) != (api.U{}) || alloc.Sum(s, at[0], at[1]) != (api.U{}) || alloc.Waits(s, at[0], at[1]) != 0 {
			t.Error(at)
		}
	}
}

// TestSum: Sum is Encumbered, and at most Max, where Max is lowered by what is
// cut; and no other set changes.
func TestSum(t *testing.T) {
	for seed := range int64(30) {
		r := rand.New(rand.NewSource(seed))
		s := store.New()
		most := wad.One()
		var all []alloc.Id
		for set := range 12 {
			all = append(all, alloc.Id{Operator: 7, Strategy: 1, Service: 9 + set%2, Set: set / 2})
		}
		for block := range 200 {
			for _, row := range due.Take(s, block) {
				if !alloc.Mature(s, alloc.Id{Operator: row[0], Strategy: row[1], Service: row[2], Set: row[3]}) {
					t.Fatal("a row was due, and nothing is pending")
				}
			}
			was := map[alloc.Id]api.U{}
			for _, x := range all {
				was[x] = alloc.Current(s, x)
			}
			x := all[r.Intn(len(all))]
			if r.Intn(4) == 0 {
				if part, e := alloc.Cut(s, x, of(1+r.Uint64()%(2*half))); e == api.OK {
					most, _ = u256.Sub(most, part)
				}
			} else {
				alloc.Modify(s, x, alloc.Change{To: of(r.Uint64() % (2 * half) >> uint(r.Intn(60))), Max: most, Block: block, Delay: r.Intn(3), Tail: r.Intn(5), Slashable: r.Intn(3) > 0})
			}
			for _, y := range all {
				if y != x && alloc.Current(s, y) != was[y] {
					t.Fatal("another set's magnitude changes")
				}
			}
			sum := alloc.Sum(s, 7, 1)
			if sum != alloc.Encumbered(s, 7, 1) || u256.Cmp(sum, most) > 0 {
				t.Fatalf("seed %d, block %d: %v, encumbered %v, most %v", seed, block, sum, alloc.Encumbered(s, 7, 1), most)
			}
			if n := alloc.Waits(s, 7, 1); n > api.MaxQueue {
				t.Fatal(n)
			}
		}
	}
}

func TestNoStore(t *testing.T) {
	for _, s := range []*store.Store{nil, {}} {
		block, e := alloc.Modify(s, alloc.Id{}, alloc.Change{})
		part, f := alloc.Cut(s, x, wad.One())
		_, g := alloc.Cut(s, x, api.U{})
		if block != 0 || e != api.ErrMade || part != (api.U{}) || f != api.OK || g != api.ErrArg {
			t.Error("errors", e, f, g)
		}
		kind, by, at := alloc.Pending(s, x)
		if kind != 0 || by != (api.U{}) || at != 0 || alloc.Mature(s, x) || alloc.Current(s, x) != (api.U{}) || alloc.Encumbered(s, 7, 1) != (api.U{}) || alloc.Sum(s, 7, 1) != (api.U{}) || alloc.Waits(s, 7, 1) != 0 {
			t.Error("something is there")
		}
	}
}
