package pause_test

import (
	"math"
	"slices"
	"testing"

	"tallage/api"
	"tallage/keys"
	"tallage/pause"
	"tallage/store"
	"tallage/tx"
)

var settings = api.Settings{Owner: 1, Pauser: 2, Updater: 3, Delay: 5, Tail: 4, Config: 2, Active: 3}

func TestGood(t *testing.T) {
	for _, turn := range []func(*api.Settings){
		func(c *api.Settings) {}, func(c *api.Settings) { c.Owner, c.Pauser, c.Updater = 9, 9, 9 }, func(c *api.Settings) { c.Owner = api.MaxAccount }, func(c *api.Settings) { c.Delay, c.Tail = 1, 1 },
		func(c *api.Settings) { c.Delay, c.Tail, c.Config, c.Active = 1e6, 1e6, 1e6, 1e6 }, func(c *api.Settings) { c.Config, c.Active = 0, 0 },
	} {
		c := settings
		turn(&c)
		if !pause.Good(c) {
			t.Errorf("%+v", c)
		}
	}
	for _, n := range []int{math.MinInt, -1, 0, 1e6 + 1, api.MaxAccount + 1, math.MaxInt} {
		for i, turn := range []func(*api.Settings){
			func(c *api.Settings) { c.Owner = n }, func(c *api.Settings) { c.Pauser = n }, func(c *api.Settings) { c.Updater = n }, func(c *api.Settings) { c.Delay = n }, func(c *api.Settings) { c.Tail = n },
			func(c *api.Settings) { c.Config = n }, func(c *api.Settings) { c.Active = n },
		} {
			c := settings
			turn(&c)
			want := i < 3 && n == 1e6+1 || i > 4 && n == 0
			if pause.Good(c) != want {
				t.Errorf("%+v", c)
			}
		}
	}
	if pause.Good(api.Settings{}) {
		t.Error("noughts")
	}
}

var bits = map[int][]int{
	1: {tx.Deposit, tx.Donate}, 2: {tx.Operator, tx.Delegate, tx.Undelegate, tx.Redelegate}, 4: {tx.Exit, tx.Complete}, 8: {tx.Service, tx.Set, tx.Include, tx.Exclude, tx.Join, tx.Leave},
	16: {tx.Delay, tx.Allocate}, 32: {tx.Slash}, 64: {tx.Submit, tx.Post, tx.Disable, tx.Claimer, tx.Claim, tx.Split}, 128: {tx.Transfer},
	0: {tx.Mint, tx.Pause, tx.Strategy, tx.Allow, 0, 29, -1, math.MinInt, math.MaxInt},
}

func TestBits(t *testing.T) {
	n := 0
	for bit, kinds := range bits {
		for _, kind := range kinds {
			n++
			if got := pause.Bit(kind); got != bit {
				t.Errorf("Bit(%d): %d", kind, got)
			}
		}
	}
	if n != 28+5 {
		t.Error(n)
	}
}

func TestFlags(t *testing.T) {
	s := store.New()
	for flags := range 256 {
		if e := pause.Set(s, flags); e != api.OK || pause.Flags(s) != flags {
			t.Fatal(flags, e)
		}
		for bit, kinds := range bits {
			for _, kind := range kinds {
				if pause.Paused(s, kind) != (flags&bit != 0) {
					t.Fatal(flags, kind)
				}
			}
		}
	}
	if got := s.All(); !slices.Equal(got, []api.Pair{{Key: keys.Key(42), Value: keys.Num(255)}}) {
		t.Errorf("%q", got)
	}
	mark := s.Mark()
	for _, flags := range []int{-1, 256, math.MinInt, math.MaxInt} {
		if e := pause.Set(s, flags); e != api.ErrRange || s.Mark() != mark {
			t.Error(flags, e)
		}
	}
	pause.Set(s, 0)
	if s.Len() != 0 {
		t.Errorf("%q", s.All())
	}
	pause.Set(s, 3)
	if !pause.Paused(s, tx.Deposit) || !pause.Paused(s, tx.Delegate) || pause.Paused(s, tx.Exit) || pause.Paused(s, tx.Pause) {
		t.Error("flags 3")
	}
}

func TestMay(t *testing.T) {
	who := map[int]int{tx.Mint: pause.Owner, tx.Strategy: pause.Owner, tx.Allow: pause.Owner, tx.Pause: pause.Pauser, tx.Post: pause.Updater, tx.Disable: pause.Updater}
	accounts := map[int]int{pause.Owner: 1, pause.Pauser: 2, pause.Updater: 3}
	for _, kind := range []int{math.MinInt, -1, 0, 29, math.MaxInt} {
		who[kind] = pause.Anybody
	}
	for kind := 1; kind <= 28; kind++ {
		who[kind] = who[kind] // Anybody, where nobody is named
	}
	for kind, want := range who {
		if got := pause.Who(kind); got != want {
			t.Errorf("Who(%d): %d", kind, got)
		}
		for _, from := range []int{-1, 0, 1, 2, 3, 4} {
			if pause.May(settings, kind, from) != (want == pause.Anybody || from == accounts[want]) {
				t.Errorf("May(%d, %d)", kind, from)
			}
		}
	}
	if pause.Anybody != 0 || pause.Owner != 1 || pause.Pauser != 2 || pause.Updater != 3 {
		t.Error("constants")
	}
}

func TestNoStore(t *testing.T) {
	for _, s := range []*store.Store{nil, {}} {
		if pause.Set(s, -1) != api.ErrMade || pause.Set(s, 3) != api.ErrMade || pause.Flags(s) != 0 || pause.Paused(s, tx.Deposit) {
			t.Error("something is there")
		}
	}
}
