package holding_test

import (
	"math"
	"math/big"
	"math/rand"
	"slices"
	"testing"

	"tallage/api"
	"tallage/cell"
	"tallage/factor"
	"tallage/holding"
	"tallage/keys"
	"tallage/store"
	"tallage/u256"
	"tallage/wad"
)

const half = 500_000_000_000_000_000

var huge = api.U{math.MaxUint64, math.MaxUint64, math.MaxUint64, math.MaxUint64}

func of(n uint64) api.U { return u256.Of(n) }

func more(a api.U) api.U {
	sum, _ := u256.Add(a, of(1))
	return sum
}

func TestExample(t *testing.T) {
	s := store.New()
	if e := holding.Put(s, 7, 0, 1, wad.One(), of(100)); e != api.OK {
		t.Fatal(e)
	}
	if cell.Amount(s, keys.Key(10, 7, 1)) != of(100) || cell.Amount(s, keys.Key(12, 0, 1)) != of(100) {
		t.Errorf("%q", s.All())
	}
	if holding.Deposit(s, 7, 1) != of(100) || holding.Factor(s, 7, 1) != wad.One() || holding.Part(s, 0, 1) != of(100) || holding.Worth(s, 7, 1, wad.One()) != of(100) || holding.Worth(s, 7, 1, of(half)) != of(50) {
		t.Error("amounts")
	}
	if less, e := holding.Cut(s, 0, 1, of(half), wad.One()); less != of(50) || e != api.OK || holding.Part(s, 0, 1) != of(50) {
		t.Error("Cut", less, e)
	}
}

func TestPut(t *testing.T) {
	s := store.New()
	holding.Put(s, 7, 9, 1, of(half), of(100))
	if holding.Factor(s, 7, 1) != of(4*half) || cell.Amount(s, keys.Key(11, 7, 1)) != of(4*half) || holding.Worth(s, 7, 1, of(half)) != of(100) || holding.Part(s, 9, 1) != of(100) {
		t.Error("a deposit at a half")
	}
	mark := s.Mark()
	for _, c := range []struct {
		staker, operator, strategy int
		m, x                       api.U
		e                          api.Errno
	}{
		{7, 9, 1, api.U{}, api.U{}, api.ErrArg}, {7, 9, 1, api.U{}, more(wad.Most()), api.ErrArg}, {7, 9, 1, wad.One(), huge, api.ErrArg}, {0, 9, 1, api.U{}, of(1), api.ErrArg},
		{-1, 9, 1, wad.One(), of(1), api.ErrArg}, {7, 9, 0, wad.One(), of(1), api.ErrArg}, {7, 9, -1, wad.One(), of(1), api.ErrArg}, {7, -1, 1, wad.One(), of(1), api.ErrArg},
		{7, 9, 1, api.U{}, of(1), api.ErrSlashed}, {7, 9, 1, api.U{}, wad.Most(), api.ErrSlashed}, {7, 9, 1, wad.One(), wad.Most(), api.ErrOver},
		{7, 9, 1, more(wad.One()), of(1), api.ErrOver}, {8, 9, 1, wad.One(), wad.Most(), api.ErrOver},
	} {
		if e := holding.Put(s, c.staker, c.operator, c.strategy, c.m, c.x); e != c.e || s.Mark() != mark {
			t.Errorf("%v: %v", c, e)
		}
	}
	if e := holding.Put(s, 8, 10, 1, wad.One(), wad.Most()); e != api.OK || holding.Part(s, 10, 1) != wad.Most() {
		t.Error("the most", e)
	}
	if e := holding.Put(s, 7, 9, 1, of(1), wad.Most()); e != api.ErrOver {
		t.Error("a factor that is none", e)
	}
}

func TestGrow(t *testing.T) {
	s := store.New()
	holding.Put(s, 7, 9, 1, wad.One(), of(100))
	holding.Cut(s, 9, 1, of(half), wad.One())
	if e := holding.Put(s, 7, 9, 1, of(half), of(50)); e != api.OK {
		t.Fatal(e)
	}
	if holding.Deposit(s, 7, 1) != of(150) || holding.Factor(s, 7, 1) != of(1333333333333333333) || holding.Part(s, 9, 1) != of(100) || holding.Worth(s, 7, 1, of(half)) != of(99) {
		t.Error("amounts", holding.Factor(s, 7, 1), holding.Worth(s, 7, 1, of(half)))
	}
}

func TestTake(t *testing.T) {
	s := store.New()
	holding.Put(s, 7, 9, 1, wad.One(), of(101))
	holding.Cut(s, 9, 1, of(half), wad.One())
	mark := s.Mark()
	for _, c := range []struct {
		staker, operator, strategy int
		m, x                       api.U
		e                          api.Errno
	}{
		{7, 9, 1, huge, api.U{}, api.ErrArg}, {7, 9, 1, of(half), of(102), api.ErrFunds}, {7, 9, 1, huge, huge, api.ErrFunds}, {8, 9, 1, of(half), of(1), api.ErrFunds},
		{0, 9, 1, of(half), of(1), api.ErrFunds}, {-1, 9, 1, of(half), of(1), api.ErrFunds}, {7, 9, 2, of(half), of(1), api.ErrFunds}, {7, 9, 1, more(wad.One()), of(1), api.ErrOver},
		{7, 0, 1, of(half), of(101), api.ErrFunds}, {7, -1, 1, of(half), of(101), api.ErrFunds}, {7, 9, 1, wad.One(), of(52), api.ErrFunds},
	} {
		if w, e := holding.Take(s, c.staker, c.operator, c.strategy, c.m, c.x); e != c.e || w != (api.U{}) || s.Mark() != mark {
			t.Errorf("%v: %v %v", c, w, e)
		}
	}
	if w, e := holding.Take(s, 7, 9, 1, of(half), of(1)); w != (api.U{}) || e != api.OK || holding.Deposit(s, 7, 1) != of(100) || holding.Part(s, 9, 1) != of(51) {
		t.Error("a share that is worth nothing", w, e)
	}
	if w, e := holding.Take(s, 7, 9, 1, of(half), of(100)); w != of(50) || e != api.OK || holding.Part(s, 9, 1) != of(1) || s.Len() != 1 {
		t.Error("all", w, e)
	}
	holding.Put(s, 7, 9, 1, wad.One(), of(10))
	if w, e := holding.Take(s, 7, 9, 1, api.U{}, of(4)); w != (api.U{}) || e != api.OK || holding.Deposit(s, 7, 1) != of(6) || holding.Factor(s, 7, 1) != wad.One() {
		t.Error("of an operator that has nothing left", w, e)
	}
}

// TestFactor: a factor stays as long as there is something left of its deposit.
func TestFactor(t *testing.T) {
	s := store.New()
	if e := holding.Put(s, 1, 1, 1, of(half), of(100)); e != api.OK {
		t.Fatal(e)
	}
	if w, e := holding.Take(s, 1, 1, 1, of(half), of(40)); w != of(40) || e != api.OK || holding.Factor(s, 1, 1) != of(4*half) {
		t.Error("a part of it", w, e)
	}
	if w, e := holding.Take(s, 1, 1, 1, of(half), of(60)); w != of(60) || e != api.OK || s.Len() != 0 {
		t.Error("the rest", w, e)
	}
	holding.Put(s, 1, 0, 1, wad.One(), of(5))
	if w, e := holding.Shift(s, 1, 1, 1, wad.One()); w != of(5) || e != api.OK || holding.Part(s, 1, 1) != of(5) {
		t.Error("Shift", w, e)
	}
}

func TestShift(t *testing.T) {
	s := store.New()
	holding.Put(s, 7, 0, 1, wad.One(), of(100))
	mark := s.Mark()
	for _, c := range []struct {
		staker, operator, strategy int
		m                          api.U
		e                          api.Errno
	}{
		{7, 0, 1, api.U{}, api.ErrArg}, {8, 0, 1, api.U{}, api.ErrArg}, {7, -1, 1, wad.One(), api.ErrArg}, {8, 9, 1, api.U{}, api.OK}, {7, 9, 2, wad.One(), api.OK}, {-1, 9, 2, wad.One(), api.OK},
		{7, 9, 1, api.U{}, api.ErrSlashed}, {7, 9, 1, more(wad.One()), api.ErrOver},
	} {
		if w, e := holding.Shift(s, c.staker, c.operator, c.strategy, c.m); e != c.e || w != (api.U{}) || s.Mark() != mark {
			t.Errorf("%v: %v %v", c, w, e)
		}
	}
	if w, e := holding.Shift(s, 7, 9, 1, of(half)); w != of(100) || e != api.OK || holding.Factor(s, 7, 1) != of(4*half) || holding.Part(s, 0, 1) != (api.U{}) || holding.Part(s, 9, 1) != of(100) || holding.Worth(s, 7, 1, of(half)) != of(100) {
		t.Error("Shift", w, e)
	}
	// What can't be moved leaves the factor as it was.
	mark = s.Mark()
	if w, e := holding.Shift(s, 7, 9, 1, wad.One()); e != api.ErrFunds || w != (api.U{}) || s.Mark() != mark {
		t.Error("nobody has too little", w, e)
	}
	holding.Put(s, 8, 0, 1, wad.One(), of(5))
	cell.SetAmount(s, keys.Key(12, 9, 1), wad.Most())
	mark = s.Mark()
	if w, e := holding.Shift(s, 8, 9, 1, of(half)); e != api.ErrOver || w != (api.U{}) || s.Mark() != mark {
		t.Error("the operator has too much", w, e)
	}
	cell.SetAmount(s, keys.Key(11, 8, 1), of(1))
	if w, e := holding.Shift(s, 8, 10, 1, of(half)); e != api.ErrOver || w != (api.U{}) {
		t.Error("a deposit that is worth nothing", w, e)
	}
}

func TestCut(t *testing.T) {
	s := store.New()
	holding.Put(s, 7, 9, 1, wad.One(), of(10))
	mark := s.Mark()
	for _, c := range []struct {
		operator int
		to, from api.U
		e        api.Errno
	}{{9, of(2), of(1), api.ErrArg}, {9, api.U{}, api.U{}, api.ErrArg}, {8, of(2), of(1), api.ErrArg}, {8, of(1), api.U{}, api.ErrArg}, {8, api.U{}, api.U{}, api.OK}, {8, of(1), of(2), api.OK}, {-1, of(1), of(2), api.OK}, {9, of(5), of(5), api.OK}} {
		if less, e := holding.Cut(s, c.operator, 1, c.to, c.from); e != c.e || less != (api.U{}) || s.Mark() != mark {
			t.Errorf("%v: %v %v", c, less, e)
		}
	}
	if less, e := holding.Cut(s, 9, 1, of(1), of(3)); less != of(6) || e != api.OK || holding.Part(s, 9, 1) != of(4) {
		t.Error("Cut to a third", less, e)
	}
	if less, e := holding.Cut(s, 9, 1, api.U{}, of(3)); less != of(4) || e != api.OK || holding.Part(s, 9, 1) != (api.U{}) {
		t.Error("Cut to nothing", less, e)
	}
}

func TestStrategies(t *testing.T) {
	s := store.New()
	for _, strategy := range []int{5, 1, 32} {
		holding.Put(s, 7, 0, strategy, wad.One(), of(1))
	}
	holding.Put(s, 8, 0, 2, wad.One(), of(1))
	holding.Put(s, 6, 0, 3, wad.One(), of(1))
	if got := holding.Strategies(s, 7); !slices.Equal(got, []int{1, 5, 32}) {
		t.Error(got)
	}
	holding.Take(s, 7, 0, 5, wad.One(), of(1))
	if got := holding.Strategies(s, 7); !slices.Equal(got, []int{1, 32}) {
		t.Error(got)
	}
	for _, staker := range []int{0, 9, -1, math.MinInt, math.MaxInt} {
		if got := holding.Strategies(s, staker); len(got) != 0 {
			t.Error(staker, got)
		}
		if holding.Deposit(s, staker, 1) != (api.U{}) || holding.Factor(s, staker, 1) != wad.One() || holding.Worth(s, staker, 1, wad.One()) != (api.U{}) || holding.Part(s, -1, 1) != (api.U{}) {
			t.Error("something is there", staker)
		}
	}
	if holding.Worth(s, 7, 1, more(wad.One())) != (api.U{}) {
		t.Error("a magnitude that may not be")
	}
}

// TestParts: a Part is at least what its holdings are worth, not rounded.
func TestParts(t *testing.T) {
	r := rand.New(rand.NewSource(1))
	for range 60 {
		s := store.New()
		m := map[int]api.U{0: wad.One(), 8: wad.One(), 9: wad.One()}
		chosen := map[int]int{}
		for range 120 {
			staker := 20 + r.Intn(6)
			operator := chosen[staker]
			x := of(1 + r.Uint64()>>uint(8+r.Intn(56)))
			switch r.Intn(6) {
			case 0, 1:
				holding.Put(s, staker, operator, 1, m[operator], x)
			case 2:
				holding.Take(s, staker, operator, 1, m[operator], u256.Min(x, holding.Deposit(s, staker, 1)))
			case 3:
				to := 8 + r.Intn(2)
				if operator != 0 {
					continue
				}
				if _, e := holding.Shift(s, staker, to, 1, m[to]); e == api.OK {
					chosen[staker] = to
				}
			case 4:
				if r.Intn(3) > 0 || holding.Deposit(s, staker, 1) == (api.U{}) {
					continue
				}
				if _, e := holding.Take(s, staker, operator, 1, m[operator], holding.Deposit(s, staker, 1)); e == api.OK {
					chosen[staker] = 0
				}
			case 5:
				cut := 8 + r.Intn(2)
				to, _ := wad.Part(m[cut], of(half+r.Uint64()%half))
				if _, e := holding.Cut(s, cut, 1, to, m[cut]); e == api.OK {
					m[cut] = to
				}
			}
			checkParts(t, s, m, chosen)
		}
	}
}

func checkParts(t *testing.T, s *store.Store, m map[int]api.U, chosen map[int]int) {
	t.Helper()
	toBig := func(a api.U) *big.Int { return new(big.Int).SetBytes(u256.Bytes(a)) }
	sums := map[int]*big.Int{0: {}, 8: {}, 9: {}}
	for staker := 20; staker < 26; staker++ {
		d, f, operator := holding.Deposit(s, staker, 1), holding.Factor(s, staker, 1), chosen[staker]
		worth := new(big.Int).Mul(toBig(d), toBig(f))
		sums[operator].Add(sums[operator], worth.Mul(worth, toBig(m[operator])))
		if w, _ := factor.Worth(d, f, m[operator]); w != holding.Worth(s, staker, 1, m[operator]) {
			t.Fatal("Worth", w)
		}
	}
	for operator, sum := range sums {
		part := toBig(holding.Part(s, operator, 1))
		if part.Mul(part, toBig(wad.Square())).Cmp(sum) < 0 {
			t.Fatalf("the Part of %d is less than its holdings", operator)
		}
	}
}

func TestNoStore(t *testing.T) {
	for _, s := range []*store.Store{nil, {}} {
		if holding.Put(s, 7, 9, 1, wad.One(), of(1)) != api.OK || holding.Put(s, 0, 9, 1, wad.One(), of(1)) != api.ErrArg || holding.Put(s, 7, 9, 1, api.U{}, of(1)) != api.ErrSlashed {
			t.Error("Put")
		}
		_, e1 := holding.Take(s, 7, 9, 1, wad.One(), of(1))
		_, e2 := holding.Take(s, 7, 9, 1, wad.One(), api.U{})
		_, e3 := holding.Shift(s, 7, 9, 1, wad.One())
		_, e4 := holding.Shift(s, 7, 0, 1, wad.One())
		_, e5 := holding.Cut(s, 9, 1, of(1), of(2))
		if e1 != api.ErrFunds || e2 != api.ErrArg || e3 != api.OK || e4 != api.ErrArg || e5 != api.OK {
			t.Error("errors", e1, e2, e3, e4, e5)
		}
		if holding.Deposit(s, 7, 1) != (api.U{}) || holding.Factor(s, 7, 1) != wad.One() || holding.Part(s, 9, 1) != (api.U{}) || holding.Worth(s, 7, 1, wad.One()) != (api.U{}) || len(holding.Strategies(s, 7)) != 0 {
			t.Error("something is there")
		}
	}
}
