package slash_test

import (
	"math/rand"
	"slices"
	"testing"

	"tallage/alloc"
	"tallage/api"
	"tallage/bank"
	"tallage/cell"
	"tallage/deleg"
	"tallage/exit"
	"tallage/holding"
	"tallage/keys"
	"tallage/magn"
	"tallage/member"
	"tallage/roster"
	"tallage/service"
	"tallage/slash"
	"tallage/store"
	"tallage/u256"
	"tallage/vault"
	"tallage/wad"
)

const (
	half  = 500_000_000_000_000_000
	delay = 5
)

func of(n uint64) api.U { return u256.Of(n) }

// filled tells a store with strategies 1 to 3; the operator 7, in sets 0 and 1
// of the service 9, which have these; and 100 shares of strategies 1 and 2 of
// the staker 5, that chose 7.
func filled(t *testing.T) *store.Store {
	t.Helper()
	s := store.New()
	bank.Mint(s, 1, 5, of(1_000_000))
	for range 3 {
		vault.New(s, 1)
	}
	roster.Register(s, 7)
	service.Register(s, 9)
	for set := range 2 {
		service.New(s, 9, []int{1, 2, 3})
		member.Join(s, 9, set, 7, 1)
	}
	roster.Choose(s, 5, 7)
	for strategy := 1; strategy <= 2; strategy++ {
		if _, e := deleg.Deposit(s, 5, strategy, of(100)); e != api.OK {
			t.Fatal(e)
		}
	}
	return s
}

func give(t *testing.T, s *store.Store, strategy, set int, a uint64) alloc.Id {
	t.Helper()
	x := alloc.Id{Operator: 7, Strategy: strategy, Service: 9, Set: set}
	if _, e := alloc.Modify(s, x, alloc.Change{To: of(a), Max: wad.One()}); e != api.OK {
		t.Fatal(e)
	}
	return x
}

func TestExample(t *testing.T) {
	s := filled(t)
	x := give(t, s, 1, 0, half)
	y := give(t, s, 1, 1, half/2)
	deposits := append(s.Under(keys.Table(10)), s.Under(keys.Table(11))...)
	cuts, e := slash.Slash(s, 9, 0, 7, []int{1}, []api.U{of(half)}, 3, delay)
	want := []slash.Cut{{Strategy: 1, Part: of(half / 2), From: wad.One(), To: of(half + half/2), Shares: of(25), Tokens: of(25)}}
	if e != api.OK || !slices.Equal(cuts, want) {
		t.Fatal(cuts, e)
	}
	if magn.Max(s, 7, 1) != of(half+half/2) || alloc.Current(s, x) != of(half/2) || alloc.Current(s, y) != of(half/2) || alloc.Encumbered(s, 7, 1) != of(half) {
		t.Error("magnitudes")
	}
	if deleg.Worth(s, 5, 1) != of(75) || deleg.Worth(s, 5, 2) != of(100) || holding.Part(s, 7, 1) != of(75) || vault.Total(s, 1) != of(75) || cell.Amount(s, bank.Sink(1)) != of(25) {
		t.Error("shares")
	}
	if !slices.Equal(deposits, append(s.Under(keys.Table(10)), s.Under(keys.Table(11))...)) {
		t.Error("a staker's entry changes")
	}
}

// TestWaits: withdrawals whose wait is not over are slashed likewise.
func TestWaits(t *testing.T) {
	s := filled(t)
	x := give(t, s, 1, 0, half)
	for block := 1; block <= 3; block++ {
		if _, e := deleg.Exit(s, 5, 1, of(20), block); e != api.OK {
			t.Fatal(e)
		}
	}
	mark := s.Mark()
	cut, e := slash.One(s, x, wad.One(), 7, delay)
	if e != api.OK || cut.Shares != of(40) || cut.Tokens != of(40) || cut.Part != of(half) || exit.Left(s, 1) != of(40) || holding.Part(s, 7, 1) != of(20) {
		t.Error(cut, e)
	}
	for id, want := range map[int]uint64{1: 20, 2: 10, 3: 10} {
		if pays, _, e := deleg.Complete(s, id, 20, delay, true); e != api.OK || pays != of(want) {
			t.Error(id, pays, e)
		}
	}
	s.Undo(mark)
	// A magnitude that falls to 0 takes all that can be slashed.
	if _, e := alloc.Modify(s, x, alloc.Change{To: wad.One(), Max: wad.One()}); e != api.OK {
		t.Fatal(e)
	}
	if cut, e := slash.One(s, x, wad.One(), 3, delay); e != api.OK || cut.To != (api.U{}) || cut.Shares != of(100) || vault.Total(s, 1) != (api.U{}) || vault.Stock(s, 1) != (api.U{}) {
		t.Error("all", cut, e)
	}
}

func TestNothing(t *testing.T) {
	s := filled(t)
	give(t, s, 1, 0, half)
	slash.Slash(s, 9, 0, 7, []int{1}, []api.U{of(half)}, 3, delay)
	mark := s.Mark()
	none := slash.Cut{Strategy: 1, From: of(half + half/2), To: of(half + half/2)}
	if cut, e := slash.One(s, alloc.Id{Operator: 7, Strategy: 1, Service: 9, Set: 1}, of(1), 3, delay); e != api.OK || cut != none || s.Mark() != mark {
		t.Error("a set that has nothing", cut, e)
	}
	if cut, e := slash.One(s, alloc.Id{}, of(1), -3, -delay); e != api.OK || cut != (slash.Cut{From: wad.One(), To: wad.One()}) || s.Mark() != mark {
		t.Error("nobody", cut, e)
	}
	if cut, e := slash.One(s, alloc.Id{Operator: 7, Strategy: 1, Service: 9, Set: 1}, api.U{}, 3, delay); e != api.ErrArg || cut != (slash.Cut{}) {
		t.Error("no fraction", cut, e)
	}
}

func TestErrors(t *testing.T) {
	s := filled(t)
	give(t, s, 1, 0, half)
	give(t, s, 2, 0, half)
	service.Exclude(s, 9, 0, 3)
	member.Leave(s, 9, 1, 7, 2, 3)
	over, _ := u256.Add(wad.One(), of(1))
	f := func(n int) []api.U { return slices.Repeat([]api.U{of(half)}, n) }
	mark := s.Mark()
	for i, c := range []struct {
		service, set, operator int
		l                      []int
		f                      []api.U
		block, delay           int
		e                      api.Errno
	}{
		{8, 0, 6, nil, nil, 3, delay, api.ErrNone}, {9, 2, 6, nil, nil, 3, delay, api.ErrNone}, {9, -1, 7, nil, nil, 3, delay, api.ErrNone}, {9, 0, 6, nil, nil, 3, delay, api.ErrAuth}, {9, 0, -7, nil, nil, 3, delay, api.ErrAuth},
		{9, 1, 7, []int{1}, f(1), 6, delay, api.ErrAuth}, {9, 0, 7, nil, nil, 3, delay, api.ErrArg}, {9, 0, 7, []int{9, 8}, f(2), 3, delay, api.ErrArg}, {9, 0, 7, []int{1, 1}, f(2), 3, delay, api.ErrArg},
		{9, 0, 7, []int{1, 9}, f(1), 3, delay, api.ErrArg}, {9, 0, 7, []int{1}, f(2), 3, delay, api.ErrArg}, {9, 0, 7, []int{1, 2, 3, 4, 5, 6, 7, 8, 9}, f(9), 3, delay, api.ErrArg},
		{9, 0, 7, []int{1, 3}, f(2), 3, delay, api.ErrNone}, {9, 0, 7, []int{1, 2}, []api.U{of(half), {}}, 3, delay, api.ErrArg}, {9, 0, 7, []int{1, 2}, []api.U{of(half), over}, 3, delay, api.ErrArg},
		{9, 0, 7, []int{1, 2}, f(2), -1, delay, api.ErrArg}, {9, 0, 7, []int{1, 2}, f(2), 3, -1, api.ErrArg}, {9, 0, 7, []int{1, 2}, f(2), api.MaxBlock + 1, delay, api.ErrArg},
	} {
		if cuts, e := slash.Slash(s, c.service, c.set, c.operator, c.l, c.f, c.block, c.delay); e != c.e || len(cuts) != 0 || s.Mark() != mark {
			t.Errorf("%d: %v %v", i, cuts, e)
		}
	}
	if cuts, e := slash.Slash(s, 9, 1, 7, []int{1}, f(1), 5, delay); e != api.OK || len(cuts) != 1 {
		t.Error("while the tail lasts", cuts, e)
	}
	// What fails in the second strategy undoes the first one.
	slash.Slash(s, 9, 0, 7, []int{2}, f(1), 6, delay)
	mark = s.Mark()
	if cuts, e := slash.Slash(s, 9, 0, 7, []int{1, 2}, f(2), 5, delay); e != api.ErrState || len(cuts) != 0 || s.Mark() != mark {
		t.Error("a block that is over", cuts, e)
	}
	if cut, e := slash.One(s, alloc.Id{Operator: 7, Strategy: 2, Service: 9}, of(half), 5, delay); e != api.ErrState || cut != (slash.Cut{}) || s.Mark() != mark {
		t.Error("One", cut, e)
	}
	cell.SetAmount(s, keys.Key(7, 1), of(1))
	mark = s.Mark()
	if cut, e := slash.One(s, alloc.Id{Operator: 7, Strategy: 1, Service: 9}, of(half), 6, delay); e != api.ErrFunds || cut != (slash.Cut{}) || s.Mark() != mark {
		t.Error("fewer shares than are to be burnt", cut, e)
	}
}

func TestArguments(t *testing.T) {
	s := filled(t)
	give(t, s, 1, 0, half)
	l, f := []int{1, 2, 99}, []api.U{of(half), of(half), of(99)}
	cuts, e := slash.Slash(s, 9, 0, 7, l[:2], f[:2], 3, delay)
	if e != api.OK || len(cuts) != 2 || !slices.Equal(l, []int{1, 2, 99}) || !slices.Equal(f, []api.U{of(half), of(half), of(99)}) {
		t.Error(cuts, e, l, f)
	}
	if cuts[1] != (slash.Cut{Strategy: 2, From: wad.One(), To: wad.One()}) {
		t.Error(cuts[1])
	}
}

// TestOthers: no other set's magnitudes change, Max falls by at most what the
// set had, and shares are Parts and what is left.
func TestOthers(t *testing.T) {
	for seed := range int64(20) {
		r := rand.New(rand.NewSource(seed))
		s := filled(t)
		x, y := give(t, s, 1, 0, 1+r.Uint64()%half), give(t, s, 1, 1, 1+r.Uint64()%half)
		for block := 2; block < 30; block++ {
			if r.Intn(2) == 0 {
				deleg.Exit(s, 5, 1, of(1+uint64(r.Intn(3))), block)
			}
			one, other := x, y
			if r.Intn(2) == 0 {
				one, other = y, x
			}
			had, has, most := alloc.Current(s, one), alloc.Current(s, other), magn.Max(s, 7, 1)
			entries := append(s.Under(keys.Table(10)), s.Under(keys.Table(11))...)
			cuts, e := slash.Slash(s, 9, one.Set, 7, []int{1}, []api.U{of(1 + r.Uint64()%(2*half))}, block, delay)
			if e != api.OK {
				t.Fatal(e)
			}
			fell, _ := u256.Sub(most, magn.Max(s, 7, 1))
			if alloc.Current(s, other) != has || u256.Cmp(fell, had) > 0 || fell != cuts[0].Part {
				t.Fatal(seed, block)
			}
			if !slices.Equal(entries, append(s.Under(keys.Table(10)), s.Under(keys.Table(11))...)) {
				t.Fatal("a staker's entry changes")
			}
			if sum, _ := u256.Add(holding.Part(s, 7, 1), exit.Left(s, 1)); sum != vault.Total(s, 1) {
				t.Fatal("shares do not add up")
			}
		}
	}
}

func TestNoStore(t *testing.T) {
	for _, s := range []*store.Store{nil, {}} {
		cuts, e := slash.Slash(s, 9, 0, 7, nil, nil, 1, 1)
		cut, f := slash.One(s, alloc.Id{Operator: 7, Strategy: 1}, wad.One(), 1, 1)
		if len(cuts) != 0 || e != api.ErrMade || f != api.OK || cut != (slash.Cut{Strategy: 1, From: wad.One(), To: wad.One()}) {
			t.Error(cuts, e, cut, f)
		}
	}
}
