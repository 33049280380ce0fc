package proof_test

import (
	"bytes"
	"math"
	"math/rand"
	"testing"

	"tallage/api"
	"tallage/merkle"
	"tallage/proof"
)

func leaves(n int) [][]byte {
	r := rand.New(rand.NewSource(int64(n)))
	l := make([][]byte, n)
	for i := range l {
		l[i] = make([]byte, 1+r.Intn(40))
		r.Read(l[i])
	}
	return l
}

func TestBuild(t *testing.T) {
	for _, kind := range []int{merkle.Earners, merkle.Tokens} {
		for _, n := range []int{1, 2, 3, 4, 5, 6, 8, 9, 17, 33} {
			l := leaves(n)
			rows := merkle.Levels(kind, l)
			root, _ := merkle.Root(kind, l)
			for i := range n {
				p, e := proof.Build(kind, l, i)
				if e != api.OK || len(p) != merkle.Depth(n) {
					t.Fatalf("Build(%d of %d): %d hashes, %v", i, n, len(p), e)
				}
				for d, h := range p {
					if h != rows[d][i>>d^1] {
						t.Fatalf("Build(%d of %d): hash %d", i, n, d)
					}
				}
				if e := proof.Check(kind, root, l[i], i, p); e != api.OK {
					t.Fatalf("Check(%d of %d): %v", i, n, e)
				}
				checkWrong(t, kind, root, l[i], i, p)
			}
		}
	}
}

// checkWrong turns what a proof says, a bit at a time.
func checkWrong(t *testing.T, kind int, root api.Hash, leaf []byte, i int, p []api.Hash) {
	t.Helper()
	want := func(e, want api.Errno, what string) {
		t.Helper()
		if e != want {
			t.Fatalf("%s: %v, want %v", what, e, want)
		}
	}
	want(proof.Check(3-kind, root, leaf, i, p), api.ErrProof, "another kind")
	want(proof.Check(kind, root, append(leaf[:len(leaf):len(leaf)], 0), i, p), api.ErrProof, "another leaf")
	other := root
	other[31] ^= 1
	want(proof.Check(kind, other, leaf, i, p), api.ErrProof, "another root")
	want(proof.Check(kind, root, leaf, i, append(p[:len(p):len(p)], api.Hash{})), api.ErrProof, "a hash more")
	if len(p) > 0 {
		want(proof.Check(kind, root, leaf, i^1, p), api.ErrProof, "another place")
		turned := append([]api.Hash(nil), p...)
		turned[len(p)-1][0] ^= 1
		want(proof.Check(kind, root, leaf, i, turned), api.ErrProof, "another hash")
	}
	want(proof.Check(kind, root, leaf, 1<<len(p), p), api.ErrRange, "a place beyond")
}

func TestBuildErrors(t *testing.T) {
	for _, c := range []struct {
		kind int
		l    [][]byte
		i    int
		e    api.Errno
	}{
		{0, leaves(2), 0, api.ErrArg}, {3, nil, -1, api.ErrArg}, {1, nil, -1, api.ErrNone}, {2, leaves(1025), 0, api.ErrLong},
		{1, leaves(3), 3, api.ErrRange}, {1, leaves(3), -1, api.ErrRange}, {1, leaves(1), 1, api.ErrRange},
		{1, leaves(2), math.MinInt, api.ErrRange}, {1, leaves(2), math.MaxInt, api.ErrRange},
	} {
		if p, e := proof.Build(c.kind, c.l, c.i); e != c.e || len(p) != 0 {
			t.Errorf("Build(%d, %d leaves, %d): %v %v", c.kind, len(c.l), c.i, p, e)
		}
	}
	two := leaves(2)
	if p, e := proof.Build(1, two, 0); e != api.OK || len(p) != 1 || p[0] != merkle.Leaf(1, two[1]) {
		t.Errorf("Build of two: %v %v", p, e)
	}
	if p, e := proof.Build(1, leaves(1), 0); e != api.OK || len(p) != 0 {
		t.Errorf("Build of one: %v %v", p, e)
	}
}

func TestFold(t *testing.T) {
	a, b, c := api.Hash{1}, api.Hash{2}, api.Hash{3}
	for _, kind := range []int{1, 2} {
		if proof.Fold(kind, a, 5, nil) != a {
			t.Error("no hashes")
		}
		if proof.Fold(kind, a, 0, []api.Hash{b}) != merkle.Node(kind, a, b) || proof.Fold(kind, a, 1, []api.Hash{b}) != merkle.Node(kind, b, a) {
			t.Error("one hash")
		}
		for i, want := range []api.Hash{
			merkle.Node(kind, merkle.Node(kind, a, b), c), merkle.Node(kind, merkle.Node(kind, b, a), c),
			merkle.Node(kind, c, merkle.Node(kind, a, b)), merkle.Node(kind, c, merkle.Node(kind, b, a)),
		} {
			if proof.Fold(kind, a, i, []api.Hash{b, c}) != want || proof.Fold(kind, a, i+4, []api.Hash{b, c}) != want {
				t.Errorf("place %d", i)
			}
		}
		for _, i := range []int{-1, -2, math.MinInt} {
			if proof.Fold(kind, a, i, []api.Hash{b, c}) != proof.Fold(kind, a, 0, []api.Hash{b, c}) {
				t.Errorf("place %d", i)
			}
		}
	}
	if proof.Fold(0, a, 0, []api.Hash{b}) != (api.Hash{}) || proof.Fold(0, a, 0, nil) != a {
		t.Error("no kind")
	}
	if proof.Fold(1, a, math.MaxInt, make([]api.Hash, 100)) == (api.Hash{}) {
		t.Error("many hashes")
	}
}

func TestCheckErrors(t *testing.T) {
	leaf := []byte{7}
	for _, c := range []struct {
		kind, i, n int
		e          api.Errno
	}{
		{0, -1, 11, api.ErrArg}, {3, 0, 0, api.ErrArg}, {1, -1, 11, api.ErrLong}, {1, 0, 100, api.ErrLong}, {1, -1, 10, api.ErrRange},
		{1, 1024, 10, api.ErrRange}, {1, 1023, 10, api.ErrProof}, {2, 1, 0, api.ErrRange}, {2, math.MaxInt, 3, api.ErrRange},
		{2, math.MinInt, 3, api.ErrRange}, {2, 0, 0, api.ErrProof},
	} {
		if e := proof.Check(c.kind, api.Hash{9}, leaf, c.i, make([]api.Hash, c.n)); e != c.e {
			t.Errorf("Check(%d, place %d, %d hashes): %v", c.kind, c.i, c.n, e)
		}
	}
	p := make([]api.Hash, 10)
	root := proof.Fold(1, merkle.Leaf(1, leaf), 1023, p)
	if e := proof.Check(1, root, leaf, 1023, p); e != api.OK {
		t.Error("the deepest proof", e)
	}
	if e := proof.Check(1, merkle.Leaf(1, leaf), leaf, 0, nil); e != api.OK {
		t.Error("one leaf", e)
	}
	if !bytes.Equal(leaf, []byte{7}) {
		t.Error("the leaf has changed")
	}
}
