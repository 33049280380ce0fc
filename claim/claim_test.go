package claim_test

import (
	"math"
	"math/rand"
	"slices"
	"testing"

	"tallage/api"
	"tallage/bank"
	"tallage/cell"
	"tallage/claim"
	"tallage/keys"
	"tallage/leaf"
	"tallage/merkle"
	"tallage/pool"
	"tallage/roots"
	"tallage/service"
	"tallage/store"
	"tallage/u256"
	"tallage/wad"
)

func of(n uint64) api.U { return u256.Of(n) }

// filled tells a store whose pool has 1000 of the tokens 1, 2 and 1000.
func filled(t *testing.T) *store.Store {
	t.Helper()
	s := store.New()
	service.Register(s, 9)
	for _, token := range []int{1, 2, 1000} {
		bank.Mint(s, token, 9, of(1000))
		if e := pool.Submit(s, 9, token, of(1000)); e != api.OK {
			t.Fatal(e)
		}
	}
	return s
}

// post posts the root of a table, active at once.
func post(t *testing.T, s *store.Store, l []leaf.Row) int {
	t.Helper()
	root, e := leaf.Root(l)
	i, f := roots.Post(s, root, 0, 0)
	if e != api.OK || f != api.OK {
		t.Fatal(e, f)
	}
	return i
}

func claimOf(t *testing.T, l []leaf.Row, root, earner int, tokens ...int) api.Claim {
	t.Helper()
	c, e := leaf.Claim(l, earner, tokens)
	if e != api.OK {
		t.Fatal(e)
	}
	c.Root = root
	return c
}

func TestExample(t *testing.T) {
	s := filled(t)
	l := []leaf.Row{{Earner: 5, Token: 1, Amount: of(10)}}
	c := claimOf(t, l, post(t, s, l), 5, 1)
	c.To = 6
	paid, e := claim.Claim(s, 5, c, 1)
	if e != api.OK || !slices.Equal(paid, []api.U{of(10)}) || bank.Balance(s, 1, 6) != of(10) || pool.Left(s, 1) != of(990) || claim.Paid(s, 5, 1) != of(10) {
		t.Error("Claim", paid, e)
	}
	if v, _ := s.Get(keys.Key(40, 5, 1)); v != keys.Amount(of(10)) {
		t.Errorf("%q", v)
	}
	mark := s.Mark()
	if paid, e := claim.Claim(s, 5, c, 1); e != api.ErrSame || len(paid) != 0 || s.Mark() != mark {
		t.Error("again", paid, e)
	}
	l[0].Amount = of(25)
	if paid, e := claim.Claim(s, 5, claimOf(t, l, post(t, s, l), 5, 1), 1); e != api.OK || !slices.Equal(paid, []api.U{of(15)}) || bank.Balance(s, 1, 5) != of(15) {
		t.Error("another table", paid, e)
	}
	if e := roots.Disable(s, 0, -1); e != api.OK {
		t.Fatal(e)
	}
	if paid, e := claim.Claim(s, 5, c, 1); e != api.ErrState || len(paid) != 0 {
		t.Error("a disabled root", paid, e)
	}
}

func TestClaimer(t *testing.T) {
	s := filled(t)
	for _, c := range [][2]int{{0, 5}, {5, 0}, {-1, 5}, {5, -1}, {api.MaxAccount + 1, 5}, {5, api.MaxAccount + 1}, {0, 0}} {
		if e := claim.SetClaimer(s, c[0], c[1]); e != api.ErrArg {
			t.Error(c, e)
		}
	}
	for _, earner := range []int{5, 0, -1, math.MinInt, math.MaxInt} {
		if got := claim.Claimer(s, earner); got != earner {
			t.Error(earner, got)
		}
	}
	n := s.Len()
	if claim.SetClaimer(s, 5, 6) != api.OK || claim.Claimer(s, 5) != 6 || claim.Claimer(s, 6) != 6 {
		t.Error("another one")
	}
	if v, _ := s.Get(keys.Key(39, 5)); v != keys.Num(6) {
		t.Errorf("%q", v)
	}
	l := []leaf.Row{{Earner: 5, Token: 1, Amount: of(10)}}
	c := claimOf(t, l, post(t, s, l), 5, 1)
	if _, e := claim.Claim(s, 5, c, 1); e != api.ErrAuth {
		t.Error("the earner may not", e)
	}
	if paid, e := claim.Claim(s, 6, c, 1); e != api.OK || len(paid) != 1 || bank.Balance(s, 1, 5) != of(10) {
		t.Error("the claimer may", e)
	}
	if claim.SetClaimer(s, 5, 5) != api.OK || claim.Claimer(s, 5) != 5 {
		t.Error("itself")
	}
	if _, ok := s.Get(keys.Key(39, 5)); ok || s.Len() < n {
		t.Error("itself is there")
	}
	if claim.Paid(s, -1, 1) != (api.U{}) || claim.Paid(s, 5, -1) != (api.U{}) || claim.Paid(s, 6, 1) != (api.U{}) {
		t.Error("others were paid")
	}
}

func TestErrors(t *testing.T) {
	s := filled(t)
	l := []leaf.Row{{Earner: 5, Token: 1, Amount: of(10)}, {Earner: 5, Token: 2, Amount: of(2000)}, {Earner: 5, Token: 3}, {Earner: 5, Token: 1000, Amount: of(7)}, {Earner: 6, Token: 1, Amount: of(10)}}
	good := claimOf(t, l, post(t, s, l), 5, 1)
	root, _ := leaf.Root(l)
	late, _ := roots.Post(s, root, 3, 4)
	two := claimOf(t, l, 0, 5, 1, 2)
	nothing := claimOf(t, l, 0, 5, 1, 3)
	twice := claimOf(t, l, 0, 5, 1)
	twice.Leaves = append(twice.Leaves, twice.Leaves[0])
	mark := s.Mark()
	for i, c := range []struct {
		c    api.Claim
		turn func(*api.Claim)
		from int
		e    api.Errno
	}{
		{good, func(c *api.Claim) { c.Earner, c.Root = 0, 9 }, 0, api.ErrArg}, {good, func(c *api.Claim) { c.To, c.Root = 0, 9 }, 6, api.ErrArg}, {good, func(c *api.Claim) { c.Earner = api.MaxAccount + 1 }, api.MaxAccount + 1, api.ErrArg},
		{good, func(c *api.Claim) { c.To = -1 }, 5, api.ErrArg}, {good, func(c *api.Claim) { c.Root = 9 }, 6, api.ErrAuth}, {good, func(c *api.Claim) { c.Root, c.Leaves = 9, nil }, 5, api.ErrNone},
		{good, func(c *api.Claim) { c.Root = -1 }, 5, api.ErrNone}, {good, func(c *api.Claim) { c.Root, c.Leaves = late, nil }, 5, api.ErrState}, {good, func(c *api.Claim) { c.Leaves = nil }, 5, api.ErrArg},
		{good, func(c *api.Claim) { c.Index = -1 }, 5, api.ErrRange}, {good, func(c *api.Claim) { c.Index ^= 1 }, 5, api.ErrProof}, {good, func(c *api.Claim) { c.Tokens[0]++ }, 5, api.ErrProof},
		{good, func(c *api.Claim) { c.Proof = make([]api.Hash, 11) }, 5, api.ErrLong}, {good, func(c *api.Claim) { c.Earner = 6 }, 6, api.ErrProof},
		{two, func(*api.Claim) {}, 5, api.ErrFunds}, {nothing, func(*api.Claim) {}, 5, api.ErrSame}, {twice, func(*api.Claim) {}, 5, api.ErrSame},
	} {
		c.turn(&c.c)
		if paid, e := claim.Claim(s, c.from, c.c, 6); e != c.e || len(paid) != 0 || s.Mark() != mark {
			t.Errorf("%d: %v %v", i, paid, e)
		}
	}
	if paid, e := claim.Claim(s, 5, claimOf(t, l, late, 5, 1, 1000), 7); e != api.OK || !slices.Equal(paid, []api.U{of(10), of(7)}) {
		t.Error("as the leaves stand", paid, e)
	}
	cell.SetAmount(s, bank.Account(1, 6), wad.Most())
	mark = s.Mark()
	if paid, e := claim.Claim(s, 6, claimOf(t, l, late, 6, 1), 7); e != api.ErrOver || len(paid) != 0 || s.Mark() != mark {
		t.Error("to an account that has the most", paid, e)
	}
}

// TestTokens: a table that leaf.Root does not make may have tokens that are none.
func TestTokens(t *testing.T) {
	s := filled(t)
	for _, token := range []int{0, 1001, math.MaxInt} {
		c := api.Claim{Earner: 5, To: 5, Leaves: []api.Leaf{{Token: token, Amount: of(1)}}}
		c.Tokens = tokenRoot(t, c)
		c.Root = postHash(t, s, c)
		if paid, e := claim.Claim(s, 5, c, 1); e != api.ErrRange || len(paid) != 0 {
			t.Error(token, paid, e)
		}
	}
	c := api.Claim{Earner: 5, To: 5, Leaves: []api.Leaf{{Token: 1, Amount: api.U{0, 0, 1}}}}
	c.Tokens = tokenRoot(t, c)
	c.Root = postHash(t, s, c)
	if paid, e := claim.Claim(s, 5, c, 1); e != api.ErrArg || len(paid) != 0 {
		t.Error("an amount above the most", paid, e)
	}
}

// tokenRoot tells the root of a Tokens' tree with the claim's one leaf.
func tokenRoot(t *testing.T, c api.Claim) api.Hash {
	t.Helper()
	root, e := merkle.Root(merkle.Tokens, [][]byte{leaf.Token(c.Leaves[0].Token, c.Leaves[0].Amount)})
	if e != api.OK {
		t.Fatal(e)
	}
	return root
}

// postHash posts the root of an Earners' tree with the claim's one leaf.
func postHash(t *testing.T, s *store.Store, c api.Claim) int {
	t.Helper()
	root, e := merkle.Root(merkle.Earners, [][]byte{leaf.Earner(c.Earner, c.Tokens)})
	i, f := roots.Post(s, root, 0, 0)
	if e != api.OK || f != api.OK {
		t.Fatal(e, f)
	}
	return i
}

// TestGreatest: claims pay together the greatest amount that was claimed.
func TestGreatest(t *testing.T) {
	r := rand.New(rand.NewSource(1))
	s := filled(t)
	most := map[[2]int]uint64{}
	for range 60 {
		var l []leaf.Row
		for at := range 4 {
			l = append(l, leaf.Row{Earner: 5 + at/2, Token: 1 + at%2, Amount: of(uint64(r.Intn(600)))})
		}
		root := post(t, s, l)
		for range 3 {
			row := l[r.Intn(4)]
			_, e := claim.Claim(s, row.Earner, claimOf(t, l, root, row.Earner, row.Token), 1)
			if at := [2]int{row.Earner, row.Token}; e == api.OK {
				most[at] = max(most[at], row.Amount[0])
			} else if e != api.ErrSame && e != api.ErrFunds {
				t.Fatal(e)
			}
		}
		for at, n := range most {
			if claim.Paid(s, at[0], at[1]) != of(n) || bank.Balance(s, at[1], at[0]) != of(n) {
				t.Fatal(at, n)
			}
		}
	}
}

func TestNoStore(t *testing.T) {
	for _, s := range []*store.Store{nil, {}} {
		paid, e := claim.Claim(s, 5, api.Claim{}, 1)
		if len(paid) != 0 || e != api.ErrMade || claim.SetClaimer(s, 0, 0) != api.ErrMade || claim.Claimer(s, 5) != 5 || claim.Paid(s, 5, 1) != (api.U{}) {
			t.Error(paid, e)
		}
	}
}
