package merkle_test

import (
	"bytes"
	"crypto/sha256"
	"math"
	"math/rand"
	"testing"

	"tallage/api"
	"tallage/merkle"
)

var kinds = []int{merkle.Earners, merkle.Tokens}

func leaves(n int) [][]byte {
	r := rand.New(rand.NewSource(int64(n)))
	l := make([][]byte, n)
	for i := range l {
		l[i] = make([]byte, r.Intn(70))
		r.Read(l[i])
	}
	return l
}

func sum(parts ...[]byte) api.Hash { return sha256.Sum256(bytes.Join(parts, nil)) }

func TestHashes(t *testing.T) {
	a, b := api.Hash{1}, api.Hash{31: 2}
	for _, kind := range kinds {
		for _, l := range leaves(10) {
			if got := merkle.Leaf(kind, l); got != sum([]byte{byte(2 * kind)}, l) {
				t.Errorf("Leaf(%d, %v): %v", kind, l, got)
			}
		}
		if got := merkle.Empty(kind); got != sum([]byte{byte(2 * kind)}) || got != merkle.Leaf(kind, nil) {
			t.Errorf("Empty(%d): %v", kind, got)
		}
		if got := merkle.Node(kind, a, b); got != sum([]byte{byte(2*kind + 1)}, a[:], b[:]) {
			t.Errorf("Node(%d): %v", kind, got)
		}
	}
	for _, kind := range []int{0, 3, -1, 256 + 1, math.MinInt, math.MaxInt} {
		if merkle.Leaf(kind, []byte{1}) != (api.Hash{}) || merkle.Empty(kind) != (api.Hash{}) || merkle.Node(kind, a, b) != (api.Hash{}) {
			t.Errorf("kind %d", kind)
		}
	}
}

func TestDepth(t *testing.T) {
	for n, want := range map[int]int{math.MinInt: 0, -1: 0, 0: 0, 1: 0, 2: 1, 3: 2, 4: 2, 5: 3, 8: 3, 9: 4, 1023: 10, 1024: 10, 1025: 11, 1 << 62: 62, 1<<62 + 1: 63, math.MaxInt: 63} {
		if got := merkle.Depth(n); got != want {
			t.Errorf("Depth(%d): %d", n, got)
		}
	}
}

func TestLevels(t *testing.T) {
	for _, kind := range kinds {
		for _, n := range []int{1, 2, 3, 4, 5, 7, 8, 9, 31, 33, 1024} {
			l := leaves(n)
			rows := merkle.Levels(kind, l)
			depth := merkle.Depth(n)
			if len(rows) != depth+1 {
				t.Fatalf("%d leaves: %d rows", n, len(rows))
			}
			for d, row := range rows {
				if len(row) != 1<<(depth-d) {
					t.Fatalf("%d leaves: row %d has %d", n, d, len(row))
				}
				for i, h := range row {
					want := merkle.Empty(kind)
					if d > 0 {
						want = merkle.Node(kind, rows[d-1][2*i], rows[d-1][2*i+1])
					} else if i < n {
						want = merkle.Leaf(kind, l[i])
					}
					if h != want {
						t.Fatalf("%d leaves: row %d, %d", n, d, i)
					}
				}
			}
			if root, e := merkle.Root(kind, l); e != api.OK || root != rows[depth][0] {
				t.Errorf("Root of %d leaves: %v %v", n, root, e)
			}
		}
		one := leaves(1)
		if root, _ := merkle.Root(kind, one); root != merkle.Leaf(kind, one[0]) {
			t.Error("Root of one leaf")
		}
	}
}

func TestNone(t *testing.T) {
	for _, c := range []struct {
		kind int
		l    [][]byte
		e    api.Errno
	}{
		{0, leaves(2), api.ErrArg}, {3, nil, api.ErrArg}, {-1, leaves(1025), api.ErrArg}, {1, nil, api.ErrNone},
		{2, [][]byte{}, api.ErrNone}, {1, leaves(1025), api.ErrLong}, {2, make([][]byte, 5000), api.ErrLong},
	} {
		if rows := merkle.Levels(c.kind, c.l); len(rows) != 0 {
			t.Errorf("Levels(%d, %d leaves)", c.kind, len(c.l))
		}
		if root, e := merkle.Root(c.kind, c.l); e != c.e || root != (api.Hash{}) {
			t.Errorf("Root(%d, %d leaves): %v %v", c.kind, len(c.l), root, e)
		}
	}
}

// TestMemory: rows share no memory, and leaves are not changed.
func TestMemory(t *testing.T) {
	l := leaves(5)
	keep := leaves(5)
	rows := merkle.Levels(1, l)
	want := merkle.Levels(1, keep)
	for i, row := range rows {
		clear(row[:cap(row)])
		for j := i + 1; j < len(rows); j++ {
			for k := range rows[j] {
				if rows[j][k] != want[j][k] {
					t.Fatal("rows share memory")
				}
			}
		}
	}
	for i := range l {
		if !bytes.Equal(l[i], keep[i]) {
			t.Fatal("a leaf has changed")
		}
	}
}

// TestOneRoot: of one depth lists have one root just where they are alike,
// behind Empty leaves at the end.
func TestOneRoot(t *testing.T) {
	l := leaves(6)
	root, _ := merkle.Root(1, l)
	if other, _ := merkle.Root(1, append(l[:6:6], nil)); other != root {
		t.Error("an Empty leaf at the end")
	}
	if other, _ := merkle.Root(2, l); other == root {
		t.Error("kinds")
	}
	for i := range l {
		changed := append([][]byte(nil), l...)
		changed[i] = append([]byte{1}, l[i]...)
		if other, _ := merkle.Root(1, changed); other == root {
			t.Errorf("leaf %d", i)
		}
	}
	if other, _ := merkle.Root(1, l[:5]); other == root {
		t.Error("a leaf less")
	}
	l[0], l[1] = l[1], l[0]
	if other, _ := merkle.Root(1, l); other == root {
		t.Error("order")
	}
}
