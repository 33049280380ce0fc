package ledger_test

import (
	"math"
	"slices"
	"strings"
	"testing"

	"tallage/alloc"
	"tallage/api"
	"tallage/bank"
	"tallage/cell"
	"tallage/delay"
	"tallage/due"
	"tallage/event"
	"tallage/keys"
	"tallage/leaf"
	"tallage/ledger"
	"tallage/magn"
	"tallage/tx"
	"tallage/u256"
	"tallage/vault"
)

var settings = api.Settings{Owner: 1, Pauser: 2, Updater: 3, Delay: 5, Tail: 4, Config: 2, Active: 3}

const half = 500_000_000_000_000_000

func of(n uint64) api.U { return u256.Of(n) }

func made(t *testing.T) *ledger.Ledger {
	t.Helper()
	l, e := ledger.New(settings)
	if e != api.OK {
		t.Fatal(e)
	}
	return l
}

// text tells a result as an error's text, and the events' texts.
func text(e api.Errno, events []api.Event) string {
	words := []string{api.Text(e)}
	for _, x := range events {
		words = append(words, event.Text(x))
	}
	return strings.Join(words, "; ")
}

// run runs a transaction, by Run or by Do, and holds what it tells against want.
func run(t *testing.T, l *ledger.Ledger, x api.Tx, want string) {
	t.Helper()
	other, before := l.Copy(), l.Store().All()
	e, events := l.Run(x)
	if got := text(e, events); got != want {
		t.Errorf("%s %v %v: %s, want %s", tx.Name(x.Kind), x.N, x.A, got, want)
	}
	if e != api.OK && !slices.Equal(before, l.Store().All()) {
		t.Errorf("%s: something changed, with an error", tx.Name(x.Kind))
	}
	if b := tx.Bytes(x); len(b) > 0 {
		if got := text(other.Do(b)); got != want || !slices.Equal(other.Store().All(), l.Store().All()) {
			t.Errorf("Do of %s: %s", tx.Name(x.Kind), got)
		}
	}
}

// act runs a transaction of these numbers.
func act(t *testing.T, l *ledger.Ledger, want string, kind, from int, n ...int) {
	t.Helper()
	run(t, l, api.Tx{Kind: kind, From: from, N: n}, want)
}

// pay runs a transaction of these numbers and an amount.
func pay(t *testing.T, l *ledger.Ledger, want string, kind, from int, a uint64, n ...int) {
	t.Helper()
	run(t, l, api.Tx{Kind: kind, From: from, N: n, A: []api.U{of(a)}}, want)
}

func tick(t *testing.T, l *ledger.Ledger, n int, want string) {
	t.Helper()
	if got := text(l.Tick(n)); got != want {
		t.Errorf("Tick(%d): %s, want %s", n, got, want)
	}
}

func TestNew(t *testing.T) {
	l := made(t)
	if l.Block() != 0 || l.Store().Len() != 0 || !l.Store().Made() || l.Settings() != settings || l.Count() != 0 {
		t.Error("a new ledger")
	}
	for _, turn := range []func(*api.Settings){func(c *api.Settings) { c.Owner = 0 }, func(c *api.Settings) { c.Delay = 0 }, func(c *api.Settings) { c.Active = -1 }, func(c *api.Settings) { *c = api.Settings{} }} {
		c := settings
		turn(&c)
		if l, e := ledger.New(c); l != nil || e != api.ErrArg {
			t.Error(c, e)
		}
	}
}

func TestNoLedger(t *testing.T) {
	for _, l := range []*ledger.Ledger{nil, {}} {
		if text(l.Run(api.Tx{Kind: tx.Service, From: 7})) != "made" || text(l.Do([]byte{15, 7})) != "made" || text(l.Do(nil)) != "made" || text(l.Tick(1)) != "made" || text(l.Tick(0)) != "made" {
			t.Error("errors")
		}
		if l.Block() != 0 || l.Store() != nil || l.Settings() != (api.Settings{}) || l.Count() != 0 || l.Copy() != nil {
			t.Error("something is there")
		}
	}
}

func TestOrder(t *testing.T) {
	l := made(t)
	for _, c := range []struct {
		b    []byte
		want string
	}{{nil, "short"}, {[]byte{29, 1}, "range"}, {[]byte{15, 7, 7}, "bad"}, {make([]byte, 4097), "long"}, {[]byte{15, 0}, "argument"}} {
		if got := text(l.Do(c.b)); got != c.want {
			t.Error(c.b[:min(len(c.b), 9)], got)
		}
	}
	if l.Count() != 0 || l.Store().Len() != 0 {
		t.Error("what is no transaction was run")
	}
	run(t, l, api.Tx{}, "argument")
	act(t, l, "auth", tx.Pause, 1, 255)
	act(t, l, "range", tx.Pause, 2, 256)
	act(t, l, "ok; pause 255", tx.Pause, 2, 255)
	run(t, l, api.Tx{Kind: tx.Transfer, From: 7, N: []int{1, 8}}, "argument")
	run(t, l, api.Tx{Kind: tx.Post, From: 7, H: make([]api.Hash, 1)}, "auth")
	run(t, l, api.Tx{Kind: tx.Post, From: 3, H: make([]api.Hash, 1)}, "paused")
	pay(t, l, "paused", tx.Transfer, 7, 5, 0, 0)
	pay(t, l, "auth", tx.Mint, 7, 5, 1, 7)
	pay(t, l, "ok; mint 1 7 5", tx.Mint, 1, 5, 1, 7)
	act(t, l, "ok; pause 0", tx.Pause, 2, 0)
	pay(t, l, "ok; transfer 1 7 8 5", tx.Transfer, 7, 5, 1, 8)
}

func TestTokens(t *testing.T) {
	l := made(t)
	pay(t, l, "ok; mint 1 7 100", tx.Mint, 1, 100, 1, 7)
	pay(t, l, "argument", tx.Mint, 1, 100, 0, 7)
	act(t, l, "ok; strategy 1 1", tx.Strategy, 1, 1)
	act(t, l, "ok; strategy 2 1", tx.Strategy, 1, 1)
	act(t, l, "argument", tx.Strategy, 1, 0)
	act(t, l, "auth", tx.Strategy, 7, 1)
	pay(t, l, "ok; deposit 7 1 60 60", tx.Deposit, 7, 60, 1)
	pay(t, l, "funds", tx.Deposit, 7, 60, 1)
	pay(t, l, "ok; donate 7 1 30", tx.Donate, 7, 30, 1)
	pay(t, l, "none", tx.Donate, 7, 30, 3)
	act(t, l, "range", tx.Allow, 1, 3, 2)
	act(t, l, "none", tx.Allow, 1, 3, 0)
	act(t, l, "ok; allow 1 0", tx.Allow, 1, 1, 0)
	pay(t, l, "state", tx.Deposit, 7, 5, 1)
	act(t, l, "ok; allow 1 1", tx.Allow, 1, 1, 1)
	act(t, l, "auth", tx.Allow, 7, 1, 1)
	pay(t, l, "ok; deposit 7 1 5 4", tx.Deposit, 7, 5, 1)
	pay(t, l, "funds", tx.Transfer, 7, 6, 1, 8)
	if vault.Total(l.Store(), 1) != of(64) || bank.Balance(l.Store(), 1, 7) != of(5) {
		t.Error("amounts")
	}
}

// staked tells a ledger in which 7 has 100 shares of the strategies 1 and 2, 8
// is an operator, and 9 a service with a set of both.
func staked(t *testing.T) *ledger.Ledger {
	t.Helper()
	l := made(t)
	pay(t, l, "ok; mint 1 7 1000", tx.Mint, 1, 1000, 1, 7)
	act(t, l, "ok; strategy 1 1", tx.Strategy, 1, 1)
	act(t, l, "ok; strategy 2 1", tx.Strategy, 1, 1)
	pay(t, l, "ok; deposit 7 1 100 100", tx.Deposit, 7, 100, 1)
	pay(t, l, "ok; deposit 7 2 100 100", tx.Deposit, 7, 100, 2)
	act(t, l, "ok; operator 8; delay 8 3 2", tx.Operator, 8, 3)
	act(t, l, "ok; service 9", tx.Service, 9)
	act(t, l, "ok; set 9 0", tx.Set, 9, 1, 2)
	return l
}

func TestStakes(t *testing.T) {
	l := staked(t)
	act(t, l, "exists", tx.Operator, 8, 3)
	act(t, l, "none", tx.Delegate, 7, 9)
	act(t, l, "ok; delegate 7 8", tx.Delegate, 7, 8)
	act(t, l, "auth", tx.Undelegate, 9, 7)
	act(t, l, "auth", tx.Undelegate, 9, 10)
	act(t, l, "state", tx.Undelegate, 8, 8)
	act(t, l, "none", tx.Undelegate, 10, 10)
	pay(t, l, "ok; exit 1 7 1 40", tx.Exit, 7, 40, 1)
	pay(t, l, "funds", tx.Exit, 7, 61, 1)
	tick(t, l, 1, "ok")
	copied := l.Copy()
	act(t, copied, "ok; exit 2 7 1 60; exit 3 7 2 100; delegate 7 0", tx.Undelegate, 8, 7)
	act(t, l, "ok; exit 2 7 1 60; exit 3 7 2 100; delegate 7 0", tx.Undelegate, 7, 7)
	act(t, l, "range", tx.Complete, 7, 9, 2)
	act(t, l, "none", tx.Complete, 7, 9, 1)
	act(t, l, "auth", tx.Complete, 8, 1, 1)
	tick(t, l, 4, "ok")
	act(t, l, "state", tx.Complete, 7, 1, 1)
	tick(t, l, 1, "ok")
	act(t, l, "ok; complete 1 7 40 40", tx.Complete, 7, 1, 1)
	act(t, l, "none", tx.Complete, 7, 1, 1)
	tick(t, l, 1, "ok")
	act(t, l, "ok; complete 2 7 60 0", tx.Complete, 7, 2, 0)
	act(t, l, "ok; operator 10; delay 10 0 9", tx.Operator, 10, 0)
	act(t, l, "ok; delegate 7 10", tx.Delegate, 7, 10)
	act(t, l, "ok; exit 4 7 1 60; delegate 7 8", tx.Redelegate, 7, 8)
	act(t, l, "none", tx.Redelegate, 7, 9)
	act(t, l, "none", tx.Delay, 7, 4)
	act(t, l, "ok; delay 8 4 9", tx.Delay, 8, 4)
	if v := delay.Get(l.Store(), 25, []int{8}); v != (delay.Value{Has: true, Now: 3, Next: 4, At: 9, More: true}) {
		t.Error(v)
	}
}

func TestSets(t *testing.T) {
	l := staked(t)
	act(t, l, "exists", tx.Service, 9)
	act(t, l, "none", tx.Set, 7, 1)
	act(t, l, "ok; set 9 1", tx.Set, 9, 2)
	act(t, l, "ok; set 9 1 1", tx.Include, 9, 1, 1)
	act(t, l, "exists", tx.Include, 9, 1, 1)
	act(t, l, "ok; set 9 1 2", tx.Exclude, 9, 1, 2)
	act(t, l, "none", tx.Exclude, 9, 1, 2)
	act(t, l, "ok; set 9 0 2", tx.Exclude, 9, 0, 2)
	act(t, l, "ok; set 9 0 2", tx.Include, 9, 0, 2)
	act(t, l, "none", tx.Join, 7, 9, 0)
	act(t, l, "ok; join 9 0 8", tx.Join, 8, 9, 0)
	act(t, l, "auth", tx.Leave, 7, 9, 0, 8)
	act(t, l, "none", tx.Leave, 8, 9, 1, 8)
	copied := l.Copy()
	tick(t, copied, 2, "ok")
	act(t, copied, "ok; leave 9 0 8 6", tx.Leave, 9, 9, 0, 8)
	act(t, l, "ok; leave 9 0 8 4", tx.Leave, 8, 9, 0, 8)
	act(t, l, "state", tx.Join, 8, 9, 0)
	tick(t, l, 5, "ok")
	act(t, l, "ok; join 9 0 8", tx.Join, 8, 9, 0)
}

func TestAllocate(t *testing.T) {
	l := staked(t)
	pay(t, l, "none", tx.Allocate, 7, half, 9, 0, 1)
	pay(t, l, "none", tx.Allocate, 8, half, 9, 1, 1)
	pay(t, l, "none", tx.Allocate, 8, half, 7, 0, 1)
	pay(t, l, "state", tx.Allocate, 8, half, 9, 0, 3)
	tick(t, l, 1, "ok")
	pay(t, l, "state", tx.Allocate, 8, half, 9, 0, 1)
	tick(t, l, 1, "ok")
	pay(t, l, "none", tx.Allocate, 8, half, 9, 0, 3)
	pay(t, l, "same", tx.Allocate, 8, 0, 9, 0, 3)
	pay(t, l, "argument", tx.Allocate, 8, 0, 9, 0, 0)
	pay(t, l, "range", tx.Allocate, 8, 2*half+1, 9, 0, 1)
	pay(t, l, "ok; allocate 8 1 9 0 5 500000000000000000", tx.Allocate, 8, half, 9, 0, 1)
	pay(t, l, "ok; allocate 8 2 9 0 5 1000000000000000000", tx.Allocate, 8, 2*half, 9, 0, 2)
	pay(t, l, "pending", tx.Allocate, 8, 0, 9, 0, 1)
	act(t, l, "ok; set 9 1", tx.Set, 9, 1)
	pay(t, l, "funds", tx.Allocate, 8, half+1, 9, 1, 1)
	tick(t, l, 2, "ok")
	tick(t, l, 1, "ok; mature 8 1 9 0; mature 8 2 9 0")
	// Who never was in the set can't be slashed: what it takes back comes at once.
	pay(t, l, "ok; allocate 8 1 9 0 0 499999999999999999", tx.Allocate, 8, half-1, 9, 0, 1)
	act(t, l, "ok; join 9 0 8", tx.Join, 8, 9, 0)
	pay(t, l, "ok; allocate 8 1 9 0 9 5", tx.Allocate, 8, 5, 9, 0, 1)
	act(t, l, "ok; set 9 0 2", tx.Exclude, 9, 0, 2)
	pay(t, l, "none", tx.Allocate, 8, 2*half+1, 9, 0, 2)
	pay(t, l, "ok; allocate 8 2 9 0 0 7", tx.Allocate, 8, 7, 9, 0, 2)
	tick(t, l, 4, "ok; mature 8 1 9 0")
	if alloc.Current(l.Store(), alloc.Id{Operator: 8, Strategy: 1, Service: 9}) != of(5) || alloc.Encumbered(l.Store(), 8, 1) != of(5) {
		t.Error("magnitudes")
	}
	act(t, l, "ok; leave 9 0 8 13", tx.Leave, 8, 9, 0, 8)
	pay(t, l, "ok; allocate 8 1 9 0 13 4", tx.Allocate, 8, 4, 9, 0, 1)
	tick(t, l, 5, "ok; mature 8 1 9 0")
	pay(t, l, "ok; allocate 8 1 9 0 0 3", tx.Allocate, 8, 3, 9, 0, 1)
	act(t, l, "ok; operator 10; delay 10 0 16", tx.Operator, 10, 0)
	tick(t, l, 2, "ok")
	pay(t, l, "ok; allocate 10 1 9 0 0 3", tx.Allocate, 10, 3, 9, 0, 1)
}

// TestSlash goes through the first examples of the whole.
func TestSlash(t *testing.T) {
	l := staked(t)
	act(t, l, "ok; delegate 7 8", tx.Delegate, 7, 8)
	tick(t, l, 2, "ok")
	pay(t, l, "ok; allocate 8 1 9 0 5 500000000000000000", tx.Allocate, 8, half, 9, 0, 1)
	tick(t, l, 3, "ok; mature 8 1 9 0")
	slash := func(n []int, f ...uint64) api.Tx {
		x := api.Tx{Kind: tx.Slash, From: 9, N: n}
		for _, a := range f {
			x.A = append(x.A, of(a))
		}
		return x
	}
	run(t, l, slash([]int{0, 8, 1}, half), "auth")
	act(t, l, "ok; join 9 0 8", tx.Join, 8, 9, 0)
	run(t, l, slash([]int{1, 8, 1}, half), "none")
	run(t, l, slash([]int{0, 8, 3}, half), "none")
	run(t, l, slash([]int{0, 8, 1, 2}, half, 0), "argument")
	pay(t, l, "ok; exit 1 7 1 20", tx.Exit, 7, 20, 1)
	run(t, l, slash([]int{0, 8, 1, 2}, half, half), "ok; slash 9 0 8 1 250000000000000000 1000000000000000000 750000000000000000; burn 1 25 25; slash 9 0 8 2 0 1000000000000000000 1000000000000000000")
	if magn.Max(l.Store(), 8, 1) != of(half+half/2) || vault.Total(l.Store(), 1) != of(75) || cell.Amount(l.Store(), bank.Sink(1)) != of(25) {
		t.Error("amounts")
	}
	pay(t, l, "ok; mint 1 10 100", tx.Mint, 1, 100, 1, 10)
	act(t, l, "ok; delegate 10 8", tx.Delegate, 10, 8)
	pay(t, l, "ok; deposit 10 1 100 100", tx.Deposit, 10, 100, 1)
	tick(t, l, 6, "ok")
	run(t, l, slash([]int{0, 8, 1}, 2*half), "ok; slash 9 0 8 1 250000000000000000 750000000000000000 500000000000000000; burn 1 53 53")
	act(t, l, "ok; complete 1 7 15 15", tx.Complete, 7, 1, 1)
	act(t, l, "ok; leave 9 0 8 15", tx.Leave, 9, 9, 0, 8)
	tick(t, l, 4, "ok")
	run(t, l, slash([]int{0, 8, 1}, 1), "ok; slash 9 0 8 1 0 500000000000000000 500000000000000000")
	tick(t, l, 1, "ok")
	run(t, l, slash([]int{0, 8, 1}, 1), "auth")
}

func TestRewards(t *testing.T) {
	l := staked(t)
	pay(t, l, "ok; mint 5 9 50", tx.Mint, 1, 50, 5, 9)
	pay(t, l, "none", tx.Submit, 7, 5, 5)
	pay(t, l, "ok; submit 9 5 30", tx.Submit, 9, 30, 5)
	rows := []leaf.Row{{Earner: 7, Token: 5, Amount: of(10)}, {Earner: 8, Token: 5, Amount: of(6)}}
	root, _ := leaf.Root(rows)
	post := api.Tx{Kind: tx.Post, From: 3, H: []api.Hash{root}}
	tick(t, l, 1, "ok")
	run(t, l, post, "ok; post 0 4")
	run(t, l, post, "ok; post 1 4")
	c, _ := leaf.Claim(rows, 7, []int{5})
	claimed := api.Tx{Kind: tx.Claim, From: 7, Claim: c}
	run(t, l, claimed, "state")
	act(t, l, "auth", tx.Disable, 7, 1)
	act(t, l, "ok; disable 1", tx.Disable, 3, 1)
	act(t, l, "exists", tx.Disable, 3, 1)
	tick(t, l, 3, "ok")
	act(t, l, "state", tx.Disable, 3, 0)
	claimed.Claim.Root = 1
	run(t, l, claimed, "state")
	claimed.Claim.Root, claimed.Claim.To = 0, 12
	act(t, l, "ok; claimer 7 11", tx.Claimer, 7, 11)
	run(t, l, claimed, "auth")
	claimed.From = 11
	run(t, l, claimed, "ok; claim 7 5 12 10")
	run(t, l, claimed, "same")
	act(t, l, "ok; split 8 9 250 6", tx.Split, 8, 9, 250)
	act(t, l, "range", tx.Split, 8, 9, 10001)
	act(t, l, "none", tx.Split, 8, 7, 1)
}

func TestTick(t *testing.T) {
	l := made(t)
	for _, n := range []int{0, -1, math.MinInt, api.MaxBlock + 1, math.MaxInt} {
		tick(t, l, n, "argument")
	}
	tick(t, l, 5, "ok")
	if l.Block() != 5 || cell.Int(l.Store(), keys.Key(43)) != 5 || l.Count() != 0 {
		t.Error("Block", l.Block())
	}
	cell.SetInt(l.Store(), keys.Key(43), api.MaxBlock-3)
	tick(t, l, 4, "argument")
	tick(t, l, 3, "ok")
	tick(t, l, 1, "argument")
	if l.Block() != api.MaxBlock {
		t.Error("Block", l.Block())
	}
	// Where nothing was pending, nothing matures.
	l = made(t)
	due.Add(l.Store(), 3, []int{1, 2, 3, 4})
	tick(t, l, 9, "ok")
	if due.Len(l.Store()) != 0 {
		t.Error("rows are due")
	}
}

// TestOrderOfTicks: what matures comes by block, however many go by at once.
func TestOrderOfTicks(t *testing.T) {
	l := staked(t)
	act(t, l, "ok; set 9 1", tx.Set, 9, 1)
	tick(t, l, 2, "ok")
	pay(t, l, "ok; allocate 8 2 9 0 5 5", tx.Allocate, 8, 5, 9, 0, 2)
	tick(t, l, 1, "ok")
	pay(t, l, "ok; allocate 8 1 9 1 6 7", tx.Allocate, 8, 7, 9, 1, 1)
	pay(t, l, "ok; allocate 8 1 9 0 6 6", tx.Allocate, 8, 6, 9, 0, 1)
	other := l.Copy()
	tick(t, l, 100, "ok; mature 8 2 9 0; mature 8 1 9 1; mature 8 1 9 0")
	var events []api.Event
	for range 100 {
		_, more := other.Tick(1)
		events = append(events, more...)
	}
	if got := text(api.OK, events); got != "ok; mature 8 2 9 0; mature 8 1 9 1; mature 8 1 9 0" || !slices.Equal(l.Store().All(), other.Store().All()) {
		t.Error(got)
	}
}

// TestCount: each Run counts, and so does each Do that comes to one.
func TestCount(t *testing.T) {
	l := made(t)
	l.Run(api.Tx{Kind: tx.Service, From: 7})
	l.Do([]byte{15, 8})
	l.Do([]byte{15})
	l.Tick(1)
	if l.Count() != 2 {
		t.Error(l.Count())
	}
}

func TestCopy(t *testing.T) {
	l := staked(t)
	c := l.Copy()
	if c.Count() != l.Count() || c.Block() != l.Block() || c.Settings() != settings || !slices.Equal(c.Store().All(), l.Store().All()) {
		t.Error("a copy is not alike")
	}
	before := l.Store().All()
	pay(t, c, "ok; deposit 7 1 5 5", tx.Deposit, 7, 5, 1)
	c.Tick(3)
	if !slices.Equal(before, l.Store().All()) || l.Block() != 0 || c.Count() != l.Count()+1 {
		t.Error("a copy does not go its own way")
	}
	l.Store().Set("k", "v")
	if v, ok := l.Store().Get("k"); v != "v" || !ok {
		t.Error("Store is not the store itself")
	}
}
