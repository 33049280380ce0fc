package leaf_test

import (
	"bytes"
	"math"
	"math/rand"
	"slices"
	"testing"

	"tallage/api"
	"tallage/leaf"
	"tallage/merkle"
	"tallage/wad"
)

var over = api.U{0, 0, 1}

func TestLeaves(t *testing.T) {
	h := api.Hash{1, 31: 9}
	if got := leaf.Earner(300, h); !bytes.Equal(got, append([]byte{172, 2}, h[:]...)) {
		t.Errorf("Earner: %v", got)
	}
	if got := leaf.Token(300, api.U{258}); !bytes.Equal(got, []byte{172, 2, 2, 1, 2}) {
		t.Errorf("Token: %v", got)
	}
	for _, n := range []int{0, 1, 127, 128, api.MaxAccount, math.MaxInt} {
		if m, g, ok := leaf.ToEarner(leaf.Earner(n, h)); !ok || m != n || g != h {
			t.Errorf("ToEarner of %d: %d %v", n, m, ok)
		}
		for _, a := range []api.U{{}, {258}, wad.Most(), over} {
			if m, c, ok := leaf.ToToken(leaf.Token(n, a)); !ok || m != n || c != a {
				t.Errorf("ToToken of %d, %v: %d %v %v", n, a, m, c, ok)
			}
		}
	}
	good := leaf.Earner(7, h)
	for _, b := range [][]byte{nil, {7}, good[:32], append(good[:33:33], 0), append([]byte{128, 0}, h[:]...), h[:]} {
		if n, g, ok := leaf.ToEarner(b); ok || n != 0 || g != (api.Hash{}) {
			t.Errorf("ToEarner(%v): %d", b, n)
		}
	}
	for _, b := range [][]byte{nil, {7}, {7, 1}, {7, 1, 0}, {7, 33}, {7, 0, 0}, {128, 0, 0}, {7, 1, 5, 5}} {
		if n, a, ok := leaf.ToToken(b); ok || n != 0 || a != (api.U{}) {
			t.Errorf("ToToken(%v): %d", b, n)
		}
	}
}

func table(r *rand.Rand, n, earners, tokens int) []leaf.Row {
	var l []leaf.Row
	for _, at := range r.Perm(earners * tokens)[:n] {
		l = append(l, leaf.Row{Earner: 5 + at/tokens*3, Token: 1 + at%tokens*2, Amount: api.U{r.Uint64() >> uint(r.Intn(64))}})
	}
	return l
}

func byPlace(a, b leaf.Row) int {
	if a.Earner != b.Earner {
		return a.Earner - b.Earner
	}
	return a.Token - b.Token
}

func TestSorted(t *testing.T) {
	r := rand.New(rand.NewSource(1))
	for range 100 {
		l := table(r, 1+r.Intn(30), 8, 5)
		keep := slices.Clone(l)
		got, ok := leaf.Sorted(l)
		if !ok || !slices.IsSortedFunc(got, byPlace) || !slices.Equal(l, keep) {
			t.Fatalf("Sorted(%v): %v %v", l, got, ok)
		}
		slices.SortFunc(keep, byPlace)
		if !slices.Equal(got, keep) {
			t.Fatalf("Sorted: %v, want %v", got, keep)
		}
	}
	row := leaf.Row{Earner: 1, Token: 1}
	for _, l := range [][]leaf.Row{
		nil, {}, {{}}, {{Earner: 0, Token: 1}}, {{Earner: -1, Token: 1}}, {{Earner: api.MaxAccount + 1, Token: 1}}, {{Earner: 1, Token: 0}},
		{{Earner: 1, Token: -1}}, {{Earner: 1, Token: 1001}}, {{Earner: 1, Token: 1, Amount: over}}, {row, row}, {row, {Earner: 2, Token: 1}, {Earner: 1, Token: 1, Amount: api.U{5}}},
		table(r, 1025, 50, 50),
	} {
		if got, ok := leaf.Sorted(l); ok || len(got) != 0 {
			t.Errorf("Sorted of %d rows: %v", len(l), got)
		}
		if h, e := leaf.Root(l); e != api.ErrArg || h != (api.Hash{}) {
			t.Errorf("Root of %d rows: %v", len(l), e)
		}
		if c, e := leaf.Claim(l, 1, []int{1}); e != api.ErrArg || len(c.Leaves) != 0 {
			t.Errorf("Claim of %d rows: %v", len(l), e)
		}
	}
	ends := []leaf.Row{{Earner: 1, Token: 1}, {Earner: api.MaxAccount, Token: 1000, Amount: wad.Most()}}
	if got, ok := leaf.Sorted(ends); !ok || !slices.Equal(got, ends) {
		t.Error("the ends", got, ok)
	}
	if got, ok := leaf.Sorted(table(r, 1024, 50, 50)); !ok || len(got) != 1024 {
		t.Error("1024 rows", len(got), ok)
	}
}

func TestRoot(t *testing.T) {
	l := []leaf.Row{{Earner: 9, Token: 2, Amount: api.U{5}}, {Earner: 7, Token: 3, Amount: api.U{6}}, {Earner: 9, Token: 1, Amount: api.U{8}}}
	seven, _ := merkle.Root(merkle.Tokens, [][]byte{leaf.Token(3, api.U{6})})
	nine, _ := merkle.Root(merkle.Tokens, [][]byte{leaf.Token(1, api.U{8}), leaf.Token(2, api.U{5})})
	want, _ := merkle.Root(merkle.Earners, [][]byte{leaf.Earner(7, seven), leaf.Earner(9, nine)})
	if got, e := leaf.Root(l); e != api.OK || got != want {
		t.Error("Root", got, e)
	}
	c, e := leaf.Claim(l, 9, []int{1, 2})
	if e != api.OK || c.Root != 0 || c.To != 9 || c.Earner != 9 || c.Index != 1 || c.Tokens != nine || len(c.Proof) != 1 || len(c.Leaves) != 2 {
		t.Fatalf("Claim: %+v %v", c, e)
	}
	if x := c.Leaves[1]; x.Index != 1 || x.Token != 2 || x.Amount != (api.U{5}) || !slices.Equal(x.Proof, []api.Hash{merkle.Leaf(merkle.Tokens, leaf.Token(1, api.U{8}))}) {
		t.Errorf("the leaf of token 2: %+v", x)
	}
	if x := c.Leaves[0]; x.Index != 0 || x.Token != 1 {
		t.Errorf("the leaf of token 1: %+v", x)
	}
	one, _ := leaf.Claim(l[:1], 9, []int{2})
	if len(one.Proof)+len(one.Leaves[0].Proof) != 0 {
		t.Error("a table of one row has hashes")
	}
}

func TestClaimErrors(t *testing.T) {
	l := []leaf.Row{{Earner: 9, Token: 2}, {Earner: 7, Token: 3}}
	for _, c := range []struct {
		earner int
		tokens []int
		e      api.Errno
	}{
		{9, nil, api.ErrArg}, {9, []int{}, api.ErrArg}, {8, make([]int, 9), api.ErrArg}, {8, []int{2}, api.ErrNone}, {9, []int{3}, api.ErrNone},
		{9, []int{2, 3}, api.ErrNone}, {0, []int{2}, api.ErrNone}, {-1, []int{2}, api.ErrNone}, {9, []int{-1}, api.ErrNone}, {9, []int{2}, api.OK},
	} {
		x, e := leaf.Claim(l, c.earner, c.tokens)
		if e != c.e || e != api.OK && (x.Earner != 0 || x.To != 0 || x.Index != 0 || len(x.Proof)+len(x.Leaves) != 0 || x.Tokens != api.Hash{}) {
			t.Errorf("Claim(%d, %v): %+v %v", c.earner, c.tokens, x, e)
		}
	}
}

func TestOpen(t *testing.T) {
	r := rand.New(rand.NewSource(2))
	for range 60 {
		l := table(r, 1+r.Intn(40), 12, 6)
		root, _ := leaf.Root(l)
		row := l[r.Intn(len(l))]
		var tokens []int
		for _, other := range l {
			if other.Earner == row.Earner {
				tokens = append(tokens, other.Token)
			}
		}
		slices.Sort(tokens)
		c, e := leaf.Claim(l, row.Earner, tokens)
		if e != api.OK || leaf.Open(c, root) != api.OK {
			t.Fatal("Open", e, leaf.Open(c, root))
		}
		for i, x := range c.Leaves {
			if x.Token != tokens[i] || !slices.Contains(l, leaf.Row{Earner: c.Earner, Token: x.Token, Amount: x.Amount}) {
				t.Fatalf("the table does not say %+v", x)
			}
		}
		wrong := func(what string, want api.Errno, turn func(*api.Claim)) {
			t.Helper()
			d := c
			d.Proof, d.Leaves = slices.Clone(c.Proof), slices.Clone(c.Leaves)
			turn(&d)
			if e := leaf.Open(d, root); e != want {
				t.Fatalf("%s: %v", what, e)
			}
		}
		last := len(c.Leaves) - 1
		wrong("an Earner", api.ErrProof, func(d *api.Claim) { d.Earner++ })
		wrong("a Token", api.ErrProof, func(d *api.Claim) { d.Leaves[last].Token++ })
		wrong("an Amount", api.ErrProof, func(d *api.Claim) { d.Leaves[last].Amount[0]++ })
		wrong("an Index", api.ErrRange, func(d *api.Claim) { d.Index = 1 << len(c.Proof) })
		wrong("no Index", api.ErrRange, func(d *api.Claim) { d.Index = -1 })
		wrong("a leaf's Index", api.ErrRange, func(d *api.Claim) { d.Leaves[0].Index = -1 })
		wrong("a long Proof", api.ErrLong, func(d *api.Claim) { d.Proof = make([]api.Hash, 11); d.Leaves[0].Index = -1 })
		wrong("a leaf's long Proof", api.ErrLong, func(d *api.Claim) { d.Leaves[0].Proof = make([]api.Hash, 11) })
		wrong("Tokens", api.ErrProof, func(d *api.Claim) { d.Tokens[0]++; d.Leaves[0].Index = -1 })
		wrong("no Leaves", api.ErrArg, func(d *api.Claim) { d.Leaves = nil; d.Index = -1 })
		wrong("many Leaves", api.ErrArg, func(d *api.Claim) { d.Leaves = make([]api.Leaf, 9) })
		wrong("Root and To", api.OK, func(d *api.Claim) { d.Root, d.To = 5, 6 })
		if e := leaf.Open(c, api.Hash{1}); e != api.ErrProof {
			t.Fatal("another root", e)
		}
	}
	if e := leaf.Open(api.Claim{Earner: math.MinInt, Leaves: []api.Leaf{{Token: math.MinInt}}}, api.Hash{}); e != api.ErrProof {
		t.Error("numbers below 0", e)
	}
}

func TestMost(t *testing.T) {
	var l []leaf.Row
	for token := 1; token <= api.MaxOf; token++ {
		l = append(l, leaf.Row{Earner: 5, Token: token})
	}
	root, _ := leaf.Root(l)
	c, e := leaf.Claim(l, 5, []int{1, 2, 3, 4, 5, 6, 7, 8})
	if e != api.OK || leaf.Open(c, root) != api.OK {
		t.Error(e, leaf.Open(c, root))
	}
}

func TestMemory(t *testing.T) {
	l := table(rand.New(rand.NewSource(3)), 20, 4, 5)
	sorted, _ := leaf.Sorted(l)
	first := sorted[0]
	sorted[0].Token = 99
	again, _ := leaf.Sorted(l)
	if again[0] != first {
		t.Error("Sorted is kept")
	}
	tokens := []int{again[0].Token, again[1].Token, 77}
	c, _ := leaf.Claim(l, first.Earner, tokens[:2])
	_ = append(c.Leaves[0].Proof, api.Hash{})
	for i := range c.Leaves[0].Proof {
		c.Leaves[0].Proof[i] = api.Hash{}
	}
	if root, _ := leaf.Root(l); leaf.Open(api.Claim{Index: c.Index, Earner: c.Earner, Tokens: c.Tokens, Proof: c.Proof, Leaves: c.Leaves[1:]}, root) != api.OK || tokens[2] != 77 {
		t.Error("proofs share memory")
	}
}
