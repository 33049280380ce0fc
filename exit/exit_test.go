package exit_test

import (
	"math"
	"math/big"
	"math/rand"
	"slices"
	"testing"

	"tallage/api"
	"tallage/cell"
	"tallage/exit"
	"tallage/history"
	"tallage/keys"
	"tallage/store"
	"tallage/u256"
	"tallage/wad"
)

const half = 500_000_000_000_000_000

var huge = api.U{math.MaxUint64, math.MaxUint64, math.MaxUint64, math.MaxUint64}

func of(n uint64) api.U { return u256.Of(n) }

func more(a api.U) api.U {
	sum, _ := u256.Add(a, of(1))
	return sum
}

// one tells a withdrawal of 100 shares of strategy 1, of the staker 5 and the
// operator 7.
func one(block int) exit.Exit {
	return exit.Exit{Staker: 5, Operator: 7, Strategy: 1, Block: block, Worth: of(100), Max: wad.One()}
}

func add(t *testing.T, s *store.Store, x exit.Exit) int {
	t.Helper()
	id, e := exit.Add(s, x)
	if e != api.OK {
		t.Fatal(e)
	}
	return id
}

func TestExample(t *testing.T) {
	s := store.New()
	x := one(3)
	if id := add(t, s, x); id != 1 {
		t.Error(id)
	}
	sum, _ := u256.Mul(of(100), wad.One())
	want := []api.Pair{
		{Key: keys.Key(14), Value: keys.Num(1)},
		{Key: keys.Key(15, 1), Value: keys.Num(5) + keys.Num(7) + keys.Num(1) + keys.Num(3)},
		{Key: keys.Key(16, 7, 1), Value: keys.Num(1)},
		{Key: keys.Key(16, 7, 1, 0), Value: keys.Num(3) + keys.Amount(sum)},
		{Key: keys.Key(17, 1), Value: keys.Amount(of(100))},
		{Key: keys.Key(18, 1), Value: keys.Amount(wad.One())},
		{Key: keys.Key(19, 1), Value: keys.Amount(of(100))},
		{Key: keys.Key(20, 5), Value: keys.Num(1)},
	}
	if got := s.All(); !slices.Equal(got, want) {
		t.Errorf("%q", got)
	}
	if got, ok := exit.Get(s, 1); !ok || got != x {
		t.Error("Get", got, ok)
	}
	if exit.Pays(x, of(half)) != of(50) || exit.Left(s, 1) != of(100) {
		t.Error("Pays")
	}
	if less, e := exit.Cut(s, 7, 1, 4, 5, of(half), wad.One()); less != of(50) || e != api.OK || exit.Left(s, 1) != of(50) {
		t.Error("Cut", less, e)
	}
	if pays, e := exit.Done(s, 1, of(half)); pays != of(50) || e != api.OK {
		t.Error("Done", pays, e)
	}
	want = []api.Pair{want[0], want[2], want[3]}
	if got := s.All(); !slices.Equal(got, want) {
		t.Errorf("behind Done: %q", got)
	}
	if id := add(t, s, x); id != 2 {
		t.Error("the next id", id)
	}
}

func TestAddErrors(t *testing.T) {
	s := store.New()
	for _, turn := range []func(*exit.Exit){
		func(x *exit.Exit) { x.Staker = 0 }, func(x *exit.Exit) { x.Staker = math.MinInt }, func(x *exit.Exit) { x.Strategy = 0 }, func(x *exit.Exit) { x.Strategy = -1 },
		func(x *exit.Exit) { x.Operator = -1 }, func(x *exit.Exit) { x.Block = -1 }, func(x *exit.Exit) { x.Block = api.MaxBlock + 1 }, func(x *exit.Exit) { x.Worth = more(wad.Most()) },
		func(x *exit.Exit) { x.Worth = huge }, func(x *exit.Exit) { x.Max = more(wad.One()) },
	} {
		x := one(3)
		turn(&x)
		if id, e := exit.Add(s, x); id != 0 || e != api.ErrArg || s.Mark() != 0 {
			t.Errorf("%+v: %d %v", x, id, e)
		}
	}
	for i := range api.MaxExits {
		if id := add(t, s, one(3)); id != i+1 {
			t.Error(id)
		}
	}
	mark := s.Mark()
	if id, e := exit.Add(s, one(3)); id != 0 || e != api.ErrFull || s.Mark() != mark {
		t.Error("too many", id, e)
	}
	x := one(3)
	x.Staker = 6
	if id := add(t, s, x); id != 17 {
		t.Error("another staker", id)
	}
	exit.Done(s, 3, wad.One())
	if id := add(t, s, one(3)); id != 18 {
		t.Error("behind Done", id)
	}
	exit.Done(s, 18, wad.One())
	mark = s.Mark()
	if id, e := exit.Add(s, one(2)); id != 0 || e != api.ErrState || s.Mark() != mark {
		t.Error("a block that is over", id, e)
	}
	x = one(4)
	x.Worth = wad.Most()
	if id, e := exit.Add(s, x); id != 0 || e != api.ErrOver || s.Mark() != mark {
		t.Error("more than the most is left", id, e)
	}
	history.Push(s, 16, []int{7, 2}, 3, huge)
	mark = s.Mark()
	x = one(2)
	x.Strategy = 2
	if id, e := exit.Add(s, x); id != 0 || e != api.ErrOver || s.Mark() != mark {
		t.Error("a sum beyond the end", id, e)
	}
	x.Operator = 0
	if _, e := exit.Add(s, x); e != api.OK || history.Len(s, 16, []int{0, 2}) != 0 {
		t.Error("without an operator", e)
	}
}

func TestEnds(t *testing.T) {
	s := store.New()
	x := exit.Exit{Staker: 1, Operator: 1, Strategy: 1, Block: api.MaxBlock, Worth: wad.Most(), Max: wad.One()}
	if id := add(t, s, x); id != 1 {
		t.Error(id)
	}
	if got, ok := exit.Get(s, 1); !ok || got != x {
		t.Error(got, ok)
	}
	if less, e := exit.Cut(s, 1, 1, 0, 0, wad.One(), wad.One()); less != (api.U{}) || e != api.OK {
		t.Error("Cut", less, e)
	}
	if less, e := exit.Cut(s, 1, 1, 0, 0, api.U{}, wad.One()); less != wad.Most() || e != api.OK {
		t.Error("Cut", less, e)
	}
}

// TestWaiting: how many of a staker wait is counted.
func TestWaiting(t *testing.T) {
	s := store.New()
	for range 3 {
		add(t, s, one(3))
	}
	for i, id := range []int{2, 1, 3} {
		exit.Done(s, id, wad.One())
		if n := cell.Int(s, keys.Key(20, 5)); n != 2-i {
			t.Error(id, n)
		}
	}
}

func TestZeros(t *testing.T) {
	s := store.New()
	x := exit.Exit{Staker: 5, Strategy: 1}
	id := add(t, s, x)
	if got, ok := exit.Get(s, id); !ok || got != x || exit.Left(s, 1) != (api.U{}) || !slices.Equal(exit.Open(s, 5), []int{1}) {
		t.Error("Get", got, ok)
	}
	x.Operator = 7
	id = add(t, s, x)
	if got, ok := exit.Get(s, id); !ok || got != x {
		t.Error("Get", got, ok)
	}
	if pays, e := exit.Done(s, id, api.U{}); pays != (api.U{}) || e != api.OK {
		t.Error("Done", pays, e)
	}
}

func TestPays(t *testing.T) {
	for _, c := range []struct {
		operator         int
		worth, max, m, w api.U
	}{
		{7, of(100), wad.One(), of(half), of(50)}, {7, of(100), of(half), of(half), of(100)}, {7, of(100), of(half), of(half + 1), api.U{}}, {7, of(100), of(half), of(half / 2), of(50)},
		{0, of(100), of(half), huge, of(100)}, {0, huge, api.U{}, api.U{}, huge}, {7, of(100), api.U{}, api.U{}, api.U{}}, {7, of(100), api.U{}, of(1), api.U{}}, {7, api.U{}, api.U{}, api.U{}, api.U{}},
		{7, of(7), of(3), of(2), of(4)}, {-1, of(100), of(2), of(1), of(50)}, {7, huge, huge, of(2), of(2)},
	} {
		if got := exit.Pays(exit.Exit{Operator: c.operator, Worth: c.worth, Max: c.max}, c.m); got != c.w {
			t.Errorf("%v: %v", c, got)
		}
	}
}

func TestDoneErrors(t *testing.T) {
	s := store.New()
	id := add(t, s, one(3))
	cell.SetAmount(s, keys.Key(19, 1), of(60))
	mark := s.Mark()
	for _, c := range []struct {
		id int
		m  api.U
		e  api.Errno
	}{{0, wad.One(), api.ErrNone}, {2, wad.One(), api.ErrNone}, {-1, wad.One(), api.ErrNone}, {math.MaxInt, wad.One(), api.ErrNone}, {id, wad.One(), api.ErrFunds}} {
		if pays, e := exit.Done(s, c.id, c.m); pays != (api.U{}) || e != c.e || s.Mark() != mark {
			t.Errorf("%v: %v %v", c, pays, e)
		}
		if x, ok := exit.Get(s, c.id); ok != (c.id == id) || !ok && x != (exit.Exit{}) {
			t.Error("Get", c.id)
		}
	}
	if pays, e := exit.Done(s, id, more(wad.One())); pays != (api.U{}) || e != api.OK || exit.Left(s, 1) != of(60) {
		t.Error("a magnitude above Max", pays, e)
	}
	if _, e := exit.Done(s, id, wad.One()); e != api.ErrNone {
		t.Error("twice", e)
	}
}

func TestSlashable(t *testing.T) {
	s := store.New()
	for _, block := range []int{3, 5, 9} {
		add(t, s, one(block))
	}
	each, _ := u256.Mul(of(100), wad.One())
	for _, c := range []struct{ block, delay, n int }{
		{9, 0, 1}, {10, 0, 0}, {9, 3, 1}, {9, 4, 2}, {9, 5, 2}, {9, 6, 3}, {10, 4, 1}, {14, 5, 1}, {15, 5, 0}, {0, 0, 3}, {3, 0, 3}, {4, 0, 2}, {5, 9, 3}, {-1, 5, 3}, {9, -1, 3},
		{math.MaxInt, 0, 0}, {math.MaxInt, math.MaxInt, 3}, {0, math.MaxInt, 3}, {math.MinInt, math.MaxInt, 3}, {math.MaxInt, math.MinInt, 3},
	} {
		want, _ := u256.Mul(each, of(uint64(c.n)))
		if got := exit.Slashable(s, 7, 1, c.block, c.delay); got != want {
			t.Errorf("%v: %v", c, got)
		}
	}
	if exit.Slashable(s, 8, 1, 9, 5) != (api.U{}) || exit.Slashable(s, 7, 2, -1, 5) != (api.U{}) || exit.Slashable(s, 0, 1, 9, 5) != (api.U{}) || exit.Slashable(s, -1, -1, 9, 5) != (api.U{}) {
		t.Error("others")
	}
	mark := s.Mark()
	for _, c := range []struct {
		operator, block, delay int
		to, from               api.U
	}{{0, 9, 5, of(1), of(2)}, {-7, 9, 5, of(1), of(2)}, {7, 9, 5, of(3), of(2)}, {7, 9, 5, of(1), more(wad.One())}, {7, -1, 5, of(1), of(2)}, {7, 9, -1, of(1), of(2)}} {
		if less, e := exit.Cut(s, c.operator, 1, c.block, c.delay, c.to, c.from); less != (api.U{}) || e != api.ErrArg || s.Mark() != mark {
			t.Errorf("%v: %v %v", c, less, e)
		}
	}
	if less, e := exit.Cut(s, 7, 1, 9, 4, of(half), wad.One()); less != of(100) || e != api.OK || exit.Left(s, 1) != of(200) {
		t.Error("Cut", less, e)
	}
	cell.SetAmount(s, keys.Key(19, 1), of(60))
	if less, e := exit.Cut(s, 7, 1, 9, 6, api.U{}, wad.One()); less != of(60) || e != api.OK || exit.Left(s, 1) != (api.U{}) {
		t.Error("Cut of all that is left", less, e)
	}
	if less, e := exit.Cut(s, 7, -1, 9, 6, api.U{}, wad.One()); less != (api.U{}) || e != api.OK {
		t.Error("Cut of no strategy", less, e)
	}
}

func TestIds(t *testing.T) {
	s := store.New()
	for i := range 300 {
		x := one(3)
		x.Staker = 5 + i%20
		add(t, s, x)
	}
	for _, id := range []int{1, 2, 300, 41} {
		exit.Done(s, id, wad.One())
	}
	if got := exit.Open(s, 5); !slices.Equal(got, []int{21, 61, 81, 101, 121, 141, 161, 181, 201, 221, 241, 261, 281}) {
		t.Error(got)
	}
	all := exit.All(s)
	if len(all) != 296 || all[0] != 3 || all[295] != 299 || !slices.IsSorted(all) {
		t.Error(all)
	}
	if len(exit.Open(s, 99)) != 0 || len(exit.Open(s, 0)) != 0 || len(exit.Open(s, -1)) != 0 {
		t.Error("others")
	}
}

// TestLeft: what is left is at least what all that wait pay, not rounded.
func TestLeft(t *testing.T) {
	const delay = 5
	toBig := func(a api.U) *big.Int { return new(big.Int).SetBytes(u256.Bytes(a)) }
	for seed := range int64(40) {
		r := rand.New(rand.NewSource(seed))
		s := store.New()
		m := map[int][]api.U{7: {wad.One()}, 8: {wad.One()}} // by block
		now := func(operator int) api.U { return m[operator][len(m[operator])-1] }
		counts := func(x exit.Exit, block int) api.U {
			if x.Operator == 0 {
				return wad.One()
			}
			return m[x.Operator][min(block, x.Block+delay)]
		}
		for block := range 60 {
			if block > 0 {
				m[7], m[8] = append(m[7], now(7)), append(m[8], now(8))
			}
			for range r.Intn(4) {
				operator := r.Intn(2) + 7
				x := exit.Exit{Staker: 1 + r.Intn(4), Operator: operator * r.Intn(2), Strategy: 1, Block: block, Worth: of(r.Uint64() >> uint(r.Intn(64))), Max: now(operator)}
				switch r.Intn(3) {
				case 0:
					exit.Add(s, x)
				case 1:
					to, _ := wad.Part(now(operator), of(half+r.Uint64()%half))
					if _, e := exit.Cut(s, operator, 1, block, delay, to, now(operator)); e != api.OK {
						t.Fatal(e)
					}
					m[operator][block] = to
				case 2:
					for _, id := range exit.All(s) {
						if x, _ := exit.Get(s, id); block > x.Block+delay && r.Intn(2) == 0 {
							want := exit.Pays(x, counts(x, block))
							if pays, e := exit.Done(s, id, counts(x, block)); e != api.OK || pays != want {
								t.Fatal(pays, e)
							}
						}
					}
				}
				sum := new(big.Rat)
				for _, id := range exit.All(s) {
					x, _ := exit.Get(s, id)
					pays := new(big.Rat).SetInt(toBig(x.Worth))
					if x.Operator != 0 && x.Max != (api.U{}) {
						pays.Mul(pays, new(big.Rat).SetFrac(toBig(counts(x, block)), toBig(x.Max)))
					}
					sum.Add(sum, pays)
				}
				if new(big.Rat).SetInt(toBig(exit.Left(s, 1))).Cmp(sum) < 0 {
					t.Fatalf("seed %d, block %d: %v is left of %v", seed, block, toBig(exit.Left(s, 1)), sum)
				}
			}
		}
	}
}

func TestNoStore(t *testing.T) {
	for _, s := range []*store.Store{nil, {}} {
		id, e1 := exit.Add(s, one(3))
		_, e2 := exit.Add(s, exit.Exit{})
		pays, e3 := exit.Done(s, 1, wad.One())
		less, e4 := exit.Cut(s, 7, 1, 5, 5, of(1), of(2))
		_, e5 := exit.Cut(s, 0, 1, 5, 5, of(1), of(2))
		if e1 != api.ErrMade || e2 != api.ErrMade || e3 != api.ErrMade || e4 != api.OK || e5 != api.ErrArg || id != 0 || pays != less || less != (api.U{}) {
			t.Error("errors", e1, e2, e3, e4, e5)
		}
		x, ok := exit.Get(s, 1)
		if ok || x != (exit.Exit{}) || exit.Left(s, 1) != (api.U{}) || exit.Slashable(s, 7, 1, -1, 5) != (api.U{}) || len(exit.Open(s, 5))+len(exit.All(s)) != 0 {
			t.Error("something is there")
		}
	}
}
