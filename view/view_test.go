package view_test

import (
	"bytes"
	"crypto/sha256"
	"math"
	"math/rand"
	"slices"
	"strings"
	"testing"

	"tallage/api"
	"tallage/cell"
	"tallage/keys"
	"tallage/ledger"
	"tallage/store"
	"tallage/tx"
	"tallage/u256"
	"tallage/view"
)

const half = 500_000_000_000_000_000

var settings = api.Settings{Owner: 1, Pauser: 2, Updater: 3, Delay: 5, Tail: 4, Config: 2, Active: 3}

const words = "balance 2 supply 1 sink 1 pool 1 stock 1 shares 1 deposit 2 worth 2 operator 1 max 2 encumbered 2 current 4 exit 1 paid 2 split 2 delay 1 block 0 flags 0 part 2 left 1"

func of(n uint64) api.U { return u256.Of(n) }

func run(t *testing.T, l *ledger.Ledger, kind, from int, n []int, a ...uint64) {
	t.Helper()
	x := api.Tx{Kind: kind, From: from, N: n}
	for _, b := range a {
		x.A = append(x.A, of(b))
	}
	if e, _ := l.Run(x); e != api.OK {
		t.Fatal(tx.Name(kind), e)
	}
}

// played tells a ledger in which a bit of all was done.
func played(t *testing.T) *ledger.Ledger {
	t.Helper()
	l, _ := ledger.New(settings)
	run(t, l, tx.Mint, 1, []int{1, 7}, 1000)
	run(t, l, tx.Mint, 1, []int{2, 9}, 90)
	run(t, l, tx.Strategy, 1, []int{1})
	run(t, l, tx.Deposit, 7, []int{1}, 100)
	run(t, l, tx.Operator, 8, []int{0})
	run(t, l, tx.Service, 9, nil)
	run(t, l, tx.Set, 9, []int{1})
	run(t, l, tx.Submit, 9, []int{2}, 40)
	run(t, l, tx.Join, 8, []int{9, 0})
	run(t, l, tx.Split, 8, []int{9, 250})
	run(t, l, tx.Delegate, 7, []int{8})
	l.Tick(2)
	run(t, l, tx.Allocate, 8, []int{9, 0, 1}, half)
	run(t, l, tx.Exit, 7, []int{1}, 20)
	run(t, l, tx.Slash, 9, []int{0, 8, 1}, half)
	run(t, l, tx.Pause, 2, []int{128})
	cell.SetAmount(l.Store(), keys.Key(40, 7, 2), of(3))
	return l
}

func TestKinds(t *testing.T) {
	l := strings.Fields(words)
	for kind := 1; kind <= 20; kind++ {
		n, ok := view.Count(kind)
		if view.Name(kind) != l[2*kind-2] || !ok || n != int(l[2*kind-1][0]-'0') {
			t.Error(kind, view.Name(kind), n, ok)
		}
	}
	for _, kind := range []int{0, 21, -1, math.MinInt, math.MaxInt} {
		if n, ok := view.Count(kind); n != 0 || ok || view.Name(kind) != "unknown" {
			t.Error(kind, view.Name(kind), n, ok)
		}
	}
}

func TestAsk(t *testing.T) {
	l := played(t)
	for _, c := range []struct {
		name string
		n    []int
		want uint64
		e    api.Errno
	}{
		{"balance", []int{1, 7}, 900, api.OK}, {"balance", []int{1, 8}, 0, api.OK}, {"balance", []int{5000, math.MaxInt}, 0, api.OK}, {"supply", []int{1}, 1000, api.OK}, {"supply", []int{2}, 90, api.OK}, {"supply", []int{0}, 0, api.OK},
		{"sink", []int{1}, 25, api.OK}, {"pool", []int{2}, 40, api.OK}, {"pool", []int{1}, 0, api.OK}, {"stock", []int{1}, 75, api.OK}, {"stock", []int{2}, 0, api.OK}, {"shares", []int{1}, 75, api.OK}, {"shares", []int{0}, 0, api.OK},
		{"deposit", []int{7, 1}, 80, api.OK}, {"worth", []int{7, 1}, 60, api.OK}, {"operator", []int{7}, 8, api.OK}, {"operator", []int{9}, 0, api.OK}, {"max", []int{8, 1}, half + half/2, api.OK}, {"max", []int{0, 1}, 2 * half, api.OK},
		{"encumbered", []int{8, 1}, half / 2, api.OK}, {"current", []int{8, 1, 9, 0}, half / 2, api.OK}, {"current", []int{8, 1, 9, 1}, 0, api.OK}, {"exit", []int{1}, 15, api.OK}, {"exit", []int{2}, 0, api.ErrNone}, {"exit", []int{0}, 0, api.ErrNone},
		{"paid", []int{7, 2}, 3, api.OK}, {"paid", []int{2, 7}, 0, api.OK}, {"split", []int{8, 9}, 250, api.OK}, {"split", []int{9, 8}, 1000, api.OK}, {"delay", []int{8}, 0, api.OK}, {"delay", []int{7}, 0, api.ErrNone}, {"block", nil, 2, api.OK}, {"flags", []int{}, 128, api.OK},
		{"part", []int{8, 1}, 60, api.OK}, {"part", []int{0, 1}, 0, api.OK}, {"left", []int{1}, 15, api.OK}, {"left", []int{2}, 0, api.OK},
	} {
		kind := 1
		for view.Name(kind) != c.name {
			kind++
		}
		before := l.Store().All()
		got, e := view.Ask(l, view.Query{Kind: kind, N: c.n})
		if e != c.e || e == api.OK && (len(got) != 1 || got[0] != of(c.want)) || e != api.OK && len(got) != 0 {
			t.Errorf("%s %v: %v %v", c.name, c.n, got, e)
		}
		if !slices.Equal(before, l.Store().All()) {
			t.Errorf("%s changes something", c.name)
		}
		for i := range c.n {
			for _, bad := range []int{-1, math.MinInt} {
				n := slices.Clone(c.n)
				n[i] = bad
				if got, e := view.Ask(l, view.Query{Kind: kind, N: n}); e != api.ErrArg || len(got) != 0 {
					t.Errorf("%s %v: %v", c.name, n, e)
				}
			}
			n := slices.Clone(c.n)
			n[i] = math.MaxInt
			view.Ask(l, view.Query{Kind: kind, N: n})
		}
		if _, e := view.Ask(l, view.Query{Kind: kind, N: append(c.n[:len(c.n):len(c.n)], 1)}); e != api.ErrArg {
			t.Errorf("%s with a number more: %v", c.name, e)
		}
		if len(c.n) > 0 {
			if _, e := view.Ask(l, view.Query{Kind: kind, N: c.n[1:]}); e != api.ErrArg {
				t.Errorf("%s with a number less: %v", c.name, e)
			}
		}
	}
	for _, kind := range []int{0, 21, -1, math.MaxInt} {
		if got, e := view.Ask(l, view.Query{Kind: kind}); e != api.ErrArg || len(got) != 0 {
			t.Error(kind, e)
		}
	}
	for _, none := range []*ledger.Ledger{nil, {}} {
		if got, e := view.Ask(none, view.Query{Kind: 99}); e != api.ErrMade || len(got) != 0 {
			t.Error("no ledger", e)
		}
	}
}

// TestExit: a withdrawal is asked about with the magnitude of now, until its
// wait is over.
func TestExit(t *testing.T) {
	l := played(t)
	ask := func(want uint64) {
		t.Helper()
		if got, e := view.Ask(l, view.Query{Kind: 13, N: []int{1}}); e != api.OK || got[0] != of(want) {
			t.Error(got, e)
		}
	}
	slash := func(f uint64) {
		t.Helper()
		run(t, l, tx.Slash, 9, []int{0, 8, 1}, f)
	}
	ask(15)
	l.Tick(5)
	slash(half) // of a fourth: the magnitude is five eighths
	ask(12)
	l.Tick(1)
	slash(half)
	ask(12)
}

func TestDelay(t *testing.T) {
	l, _ := ledger.New(settings)
	run(t, l, tx.Operator, 8, []int{7})
	ask := func() ([]api.U, api.Errno) { return view.Ask(l, view.Query{Kind: 16, N: []int{8}}) }
	if got, e := ask(); e != api.ErrNone || len(got) != 0 {
		t.Error("ahead of its block", got, e)
	}
	l.Tick(2)
	if got, e := ask(); e != api.OK || got[0] != of(7) {
		t.Error(got, e)
	}
}

func TestBytes(t *testing.T) {
	s := store.New()
	if !bytes.Equal(view.Bytes(s), []byte{0}) || !bytes.Equal(view.Bytes(nil), []byte{0}) || !bytes.Equal(view.Bytes(&store.Store{}), []byte{0}) {
		t.Error("Bytes of nothing")
	}
	s.Set("b", "")
	s.Set("a", "xyz")
	if got := view.Bytes(s); !bytes.Equal(got, []byte{2, 1, 'a', 3, 'x', 'y', 'z', 1, 'b', 0}) {
		t.Error(got)
	}
	if view.Digest(s) != sha256.Sum256(view.Bytes(s)) || view.Digest(nil) != sha256.Sum256([]byte{0}) {
		t.Error("Digest")
	}
}

func TestLoad(t *testing.T) {
	r := rand.New(rand.NewSource(1))
	text := func(most int) string {
		b := make([]byte, r.Intn(most))
		r.Read(b)
		return string(b)
	}
	for range 200 {
		s := store.New()
		for range r.Intn(50) {
			s.Set(text(4), text(200))
		}
		b := view.Bytes(s)
		got, e := view.Load(b)
		if e != api.OK || !slices.Equal(got.All(), s.All()) || got.Mark() != 0 || !bytes.Equal(view.Bytes(got), b) {
			t.Fatal(e)
		}
		clear(b)
		if !slices.Equal(got.All(), s.All()) {
			t.Fatal("bytes are kept")
		}
	}
	l := played(t)
	if got, e := view.Load(view.Bytes(l.Store())); e != api.OK || view.Digest(got) != view.Digest(l.Store()) {
		t.Error("a ledger's store", e)
	}
	long := []byte{129, 128, 128, 128, 4} // 2^30 and one
	most := []byte{128, 128, 128, 128, 4}
	for _, c := range []struct {
		b []byte
		e api.Errno
	}{
		{nil, api.ErrShort}, {[]byte{1}, api.ErrShort}, {[]byte{0, 0}, api.ErrBad}, {long, api.ErrRange}, {most, api.ErrShort}, {[]byte{128, 0}, api.ErrBad},
		{append([]byte{1}, long...), api.ErrRange}, {append([]byte{1}, most...), api.ErrShort}, {append([]byte{1, 1, 'a'}, long...), api.ErrRange}, {[]byte{1, 0}, api.ErrBad}, {[]byte{1, 0, 128, 0}, api.ErrBad},
		{[]byte{1, 1}, api.ErrShort}, {[]byte{1, 1, 'a'}, api.ErrShort}, {[]byte{1, 1, 'a', 1}, api.ErrShort}, {[]byte{1, 1, 'a', 0, 0}, api.ErrBad}, {[]byte{2, 1, 'a', 0}, api.ErrShort},
		{[]byte{2, 1, 'a', 0, 1, 'a'}, api.ErrBad}, {append([]byte{2, 1, 'b', 0, 1, 'a'}, long...), api.ErrBad}, {[]byte{2, 1, 'b', 0, 1, 'a', 0}, api.ErrBad},
	} {
		if s, e := view.Load(c.b); e != c.e || s != nil {
			t.Errorf("%v: %v", c.b, e)
		}
	}
}

// TestUnlike: stores that are not alike have unlike bytes.
func TestUnlike(t *testing.T) {
	seen := map[string]bool{}
	for _, keys := range [][]string{{}, {"a"}, {"b"}, {"a", "b"}, {"ab"}, {"a", "ab"}} {
		for _, value := range []string{"", "a", "b", "ab"} {
			s := store.New()
			for _, k := range keys {
				s.Set(k, value)
			}
			b := string(view.Bytes(s))
			if seen[b] && len(keys) > 0 {
				t.Errorf("%q %q", keys, value)
			}
			seen[b] = true
		}
	}
}
