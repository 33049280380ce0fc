package tx_test

import (
	"bytes"
	"math"
	"math/rand"
	"slices"
	"strings"
	"testing"

	"tallage/api"
	"tallage/tx"
	"tallage/wad"
)

const words = "mint pause strategy allow transfer deposit donate operator delegate undelegate redelegate exit complete delay service set include exclude join leave allocate slash submit post disable claimer claim split"

var shapes = map[int]tx.Shape{
	tx.Mint: {N: 2, A: 1}, tx.Pause: {N: 1}, tx.Strategy: {N: 1}, tx.Allow: {N: 2}, tx.Transfer: {N: 2, A: 1},
	tx.Deposit: {N: 1, A: 1}, tx.Donate: {N: 1, A: 1}, tx.Operator: {N: 1}, tx.Delegate: {N: 1}, tx.Undelegate: {N: 1},
	tx.Redelegate: {N: 1}, tx.Exit: {N: 1, A: 1}, tx.Complete: {N: 2}, tx.Delay: {N: 1}, tx.Service: {},
	tx.Set: {Tail: true}, tx.Include: {N: 2}, tx.Exclude: {N: 2}, tx.Join: {N: 2}, tx.Leave: {N: 3},
	tx.Allocate: {N: 3, A: 1}, tx.Slash: {N: 2, Tail: true, Each: true}, tx.Submit: {N: 1, A: 1}, tx.Post: {H: 1},
	tx.Disable: {N: 1}, tx.Claimer: {N: 1}, tx.Claim: {Claim: true}, tx.Split: {N: 2},
}

func TestKinds(t *testing.T) {
	for i, word := range strings.Fields(words) {
		kind := i + 1
		if shape, ok := tx.Of(kind); !ok || shape != shapes[kind] {
			t.Errorf("Of(%s): %+v %v", word, shape, ok)
		}
		if tx.Name(kind) != word {
			t.Errorf("Name(%d): %s", kind, tx.Name(kind))
		}
	}
	for _, kind := range []int{0, 29, -1, math.MinInt, math.MaxInt} {
		if shape, ok := tx.Of(kind); ok || shape != (tx.Shape{}) || tx.Name(kind) != "unknown" {
			t.Errorf("kind %d: %+v %s", kind, shape, tx.Name(kind))
		}
	}
}

func number(r *rand.Rand, most int) int {
	switch r.Intn(5) {
	case 0:
		return 0
	case 1:
		return most
	}
	return r.Intn(most>>uint(r.Intn(30)) + 1)
}

func amount(r *rand.Rand) api.U {
	if r.Intn(5) == 0 {
		return wad.Most()
	}
	return api.U{r.Uint64() >> uint(r.Intn(64)), r.Uint64() >> uint(r.Intn(64)) * uint64(r.Intn(2))}
}

func hashes(r *rand.Rand, n int) []api.Hash {
	l := make([]api.Hash, n)
	for i := range l {
		r.Read(l[i][:])
	}
	return l
}

// good tells a transaction of the kind, with anything in it that may be.
func good(r *rand.Rand, kind int) api.Tx {
	shape := shapes[kind]
	t := api.Tx{Kind: kind, From: max(1, number(r, api.MaxAccount)), H: hashes(r, shape.H)}
	for range shape.N {
		t.N = append(t.N, number(r, 1<<40))
	}
	amounts := shape.A
	if shape.Tail {
		last := r.Intn(2) * (1<<40 - 8*1000)
		for range 1 + r.Intn(api.MaxOf) {
			last += 1 + r.Intn(1000)
			t.N = append(t.N, last)
		}
		if shape.Each {
			amounts += len(t.N) - shape.N
		}
	}
	for range amounts {
		t.A = append(t.A, amount(r))
	}
	if shape.Claim {
		t.Claim = claim(r)
	}
	return t
}

func claim(r *rand.Rand) api.Claim {
	c := api.Claim{Root: number(r, 1<<32-1), Index: number(r, 1<<32-1), Earner: max(1, number(r, api.MaxAccount)),
		To: max(1, number(r, api.MaxAccount)), Tokens: hashes(r, 1)[0], Proof: hashes(r, r.Intn(11))}
	for range 1 + r.Intn(api.MaxOf) {
		c.Leaves = append(c.Leaves, api.Leaf{Index: number(r, 1<<32-1), Token: number(r, 1<<32-1), Amount: amount(r), Proof: hashes(r, r.Intn(11))})
	}
	return c
}

func TestThereAndBack(t *testing.T) {
	r := rand.New(rand.NewSource(1))
	for kind := 1; kind <= 28; kind++ {
		for range 60 {
			x := good(r, kind)
			b := tx.Bytes(x)
			if !tx.Good(x) || len(b) == 0 {
				t.Fatalf("%s: %+v is not good", tx.Name(kind), x)
			}
			y, e := tx.Parse(b)
			if e != api.OK || !tx.Same(x, y) || !tx.Same(y, x) || !bytes.Equal(tx.Bytes(y), b) {
				t.Fatalf("%s: %+v leads to %+v, %v", tx.Name(kind), x, y, e)
			}
			if z, e := tx.Parse(append(b[:len(b):len(b)], 0)); e != api.ErrBad || !tx.Same(z, api.Tx{}) {
				t.Fatalf("%s with a byte behind: %v", tx.Name(kind), e)
			}
			if kind == tx.Claim && r.Intn(10) > 0 {
				continue
			}
			for n := range len(b) {
				if z, e := tx.Parse(b[:n]); e != api.ErrShort || !tx.Same(z, api.Tx{}) {
					t.Fatalf("%s, cut at %d of %v: %v", tx.Name(kind), n, b, e)
				}
			}
		}
	}
}

// TestOneWay: bytes that are a transaction are just those of it.
func TestOneWay(t *testing.T) {
	r := rand.New(rand.NewSource(2))
	read := 0
	for range 100000 {
		b := tx.Bytes(good(r, 1+r.Intn(28)))
		for range 1 + r.Intn(2) {
			if at := r.Intn(len(b)); r.Intn(2) == 0 {
				b[at] = byte(r.Intn(256))
			} else {
				b = slices.Insert(b, at, byte(r.Intn(3)*64))
			}
		}
		if x, e := tx.Parse(b); e == api.OK {
			read++
			if !tx.Good(x) || !bytes.Equal(tx.Bytes(x), b) {
				t.Fatalf("%v is %+v", b, x)
			}
		}
	}
	if read < 1000 {
		t.Error("too few are transactions", read)
	}
}

// TestBad turns each thing of good transactions into one that may not be.
func TestBad(t *testing.T) {
	over, _ := wad.Scale(wad.Most(), api.U{2}, api.U{1})
	r := rand.New(rand.NewSource(3))
	for kind := 1; kind <= 28; kind++ {
		x := good(r, kind)
		bad := func(what string, turn func(*api.Tx)) {
			t.Helper()
			y := x
			y.N, y.A, y.H = slices.Clone(x.N), slices.Clone(x.A), slices.Clone(x.H)
			y.Claim.Proof, y.Claim.Leaves = slices.Clone(x.Claim.Proof), slices.Clone(x.Claim.Leaves)
			turn(&y)
			if tx.Good(y) || len(tx.Bytes(y)) != 0 || tx.Same(x, y) || tx.Same(y, x) {
				t.Errorf("%s with %s: %+v", tx.Name(kind), what, y)
			}
		}
		for _, from := range []int{0, -1, api.MaxAccount + 1, math.MinInt, math.MaxInt} {
			bad("From", func(y *api.Tx) { y.From = from })
		}
		for _, k := range []int{0, -1, 29, math.MaxInt} {
			bad("Kind", func(y *api.Tx) { y.Kind = k })
		}
		for i := range x.N {
			for _, n := range []int{-1, math.MinInt, 1<<40 + 1, math.MaxInt} {
				bad("a number", func(y *api.Tx) { y.N[i] = n })
			}
		}
		shape := shapes[kind]
		for i := shape.N + 1; i < len(x.N); i++ {
			bad("a Tail that does not rise", func(y *api.Tx) { y.N[i] = y.N[i-1] })
			bad("a Tail that falls", func(y *api.Tx) { y.N[i], y.N[i-1] = y.N[i-1], y.N[i] })
		}
		for i := range x.A {
			bad("an amount", func(y *api.Tx) { y.A[i] = over })
			bad("an amount less", func(y *api.Tx) { y.A = y.A[1:] })
		}
		bad("an amount more", func(y *api.Tx) { y.A = append(y.A, api.U{}) })
		bad("a hash more", func(y *api.Tx) { y.H = append(y.H, api.Hash{}) })
		if shape.H > 0 {
			bad("no hash", func(y *api.Tx) { y.H = nil })
		}
		if !shape.Tail {
			bad("a number more", func(y *api.Tx) { y.N = append(y.N, 1<<40) })
		} else {
			bad("no Tail", func(y *api.Tx) { y.N = y.N[:shape.N]; y.A = nil })
			bad("a long Tail", func(y *api.Tx) {
				y.N = append(y.N[:shape.N], 1, 2, 3, 4, 5, 6, 7, 8, 9)
				if shape.Each {
					y.A = make([]api.U, 9)
				}
			})
		}
		if shape.N > 0 && !shape.Tail {
			bad("a number less", func(y *api.Tx) { y.N = y.N[1:] })
		}
		if kind != tx.Claim {
			for what, c := range map[string]api.Claim{"Root": {Root: 1}, "Index": {Index: 1}, "Earner": {Earner: 1}, "To": {To: 1}, "Tokens": {Tokens: api.Hash{1}},
				"Proof": {Proof: make([]api.Hash, 1)}, "Leaves": {Leaves: make([]api.Leaf, 1)}} {
				bad("a claim's "+what, func(y *api.Tx) { y.Claim = c })
			}
			y := x
			y.Claim.Proof, y.Claim.Leaves = []api.Hash{}, []api.Leaf{}
			if !tx.Good(y) || !tx.Same(x, y) {
				t.Error("empty lists are none")
			}
			continue
		}
		for _, n := range []int{-1, 1 << 32, math.MinInt, math.MaxInt} {
			bad("Root", func(y *api.Tx) { y.Claim.Root = n })
			bad("Index", func(y *api.Tx) { y.Claim.Index = n })
			bad("Earner", func(y *api.Tx) { y.Claim.Earner = n })
			bad("To", func(y *api.Tx) { y.Claim.To = n })
			bad("a leaf's Index", func(y *api.Tx) { y.Claim.Leaves[0].Index = n })
			bad("a leaf's Token", func(y *api.Tx) { y.Claim.Leaves[len(y.Claim.Leaves)-1].Token = n })
		}
		bad("no Earner", func(y *api.Tx) { y.Claim.Earner = 0 })
		bad("no To", func(y *api.Tx) { y.Claim.To = 0 })
		bad("a long Proof", func(y *api.Tx) { y.Claim.Proof = make([]api.Hash, 11) })
		bad("a leaf's long Proof", func(y *api.Tx) { y.Claim.Leaves[0].Proof = make([]api.Hash, 11) })
		bad("a leaf's amount", func(y *api.Tx) { y.Claim.Leaves[0].Amount = over })
		bad("no Leaves", func(y *api.Tx) { y.Claim.Leaves = nil })
		bad("many Leaves", func(y *api.Tx) { y.Claim.Leaves = make([]api.Leaf, 9) })
	}
}

func TestBytes(t *testing.T) {
	for _, c := range []struct {
		x    api.Tx
		want []byte
	}{
		{api.Tx{Kind: tx.Service, From: 7}, []byte{15, 7}},
		{api.Tx{Kind: tx.Mint, From: 1, N: []int{1, 300}, A: []api.U{{258}}}, []byte{1, 1, 1, 172, 2, 2, 1, 2}},
		{api.Tx{Kind: tx.Set, From: 9, N: []int{1, 3}}, []byte{16, 9, 2, 1, 3}},
		{api.Tx{Kind: tx.Slash, From: 9, N: []int{0, 7, 1, 3}, A: []api.U{{5}, {}}}, []byte{22, 9, 0, 7, 2, 1, 3, 1, 5, 0}},
		{api.Tx{Kind: tx.Post, From: 3, H: []api.Hash{{1, 31: 2}}}, append([]byte{24, 3, 1}, append(make([]byte, 30), 2)...)},
		{api.Tx{Kind: tx.Claim, From: 5, Claim: api.Claim{Root: 1, Index: 2, Earner: 5, To: 6, Leaves: []api.Leaf{{Index: 3, Token: 4, Amount: api.U{9}}}}},
			slices.Concat([]byte{27, 5, 1, 2, 5, 6}, make([]byte, 32), []byte{0, 1, 3, 4, 1, 9, 0})},
	} {
		if got := tx.Bytes(c.x); !bytes.Equal(got, c.want) {
			t.Errorf("Bytes(%+v): %v", c.x, got)
		}
	}
}

func TestParseErrors(t *testing.T) {
	for _, c := range []struct {
		b []byte
		e api.Errno
	}{
		{nil, api.ErrShort}, {make([]byte, 4097), api.ErrLong}, {make([]byte, 4096), api.ErrBad}, {[]byte{29}, api.ErrRange}, {[]byte{29, 0, 0}, api.ErrRange},
		{[]byte{0}, api.ErrShort}, {[]byte{0, 0}, api.ErrArg}, {[]byte{0, 5}, api.ErrArg}, {[]byte{0, 5, 1}, api.ErrBad}, {[]byte{15, 0}, api.ErrArg},
		{[]byte{15, 0, 1}, api.ErrBad}, {[]byte{15, 128, 0}, api.ErrBad}, {[]byte{128, 0, 1}, api.ErrBad},
		{[]byte{15, 128, 128, 128, 128, 16}, api.ErrRange}, {[]byte{15, 255, 255, 255, 255, 15}, api.OK},
		{[]byte{2, 1, 128, 128, 128, 128, 128, 32}, api.OK}, {[]byte{2, 1, 129, 128, 128, 128, 128, 32}, api.ErrRange},
		{[]byte{16, 1, 0}, api.ErrArg}, {[]byte{16, 1, 9}, api.ErrRange}, {[]byte{16, 1, 2, 3, 3}, api.ErrArg}, {[]byte{16, 1, 2, 3}, api.ErrShort}, {[]byte{16, 1, 2, 3, 3, 0}, api.ErrBad},
		{[]byte{22, 1, 0, 0, 0}, api.ErrArg}, {[]byte{22, 1, 0, 0, 1, 5}, api.ErrShort}, {[]byte{22, 1, 0, 0, 1, 5, 0}, api.OK},
		{[]byte{6, 1, 1, 33}, api.ErrBad}, {[]byte{6, 1, 1, 1, 0}, api.ErrBad}, {append([]byte{6, 1, 1, 17}, bytes.Repeat([]byte{1}, 17)...), api.ErrArg},
		{append([]byte{6, 1, 1, 17}, bytes.Repeat([]byte{1}, 18)...), api.ErrBad},
		{append([]byte{27, 1, 0, 0, 1, 1}, append(make([]byte, 32), 11)...), api.ErrRange},
		{append([]byte{27, 1, 0, 0, 1, 1}, append(make([]byte, 32), 0, 9)...), api.ErrRange},
		{append([]byte{27, 1, 0, 0, 1, 1}, append(make([]byte, 32), 0, 0)...), api.ErrArg},
		{append([]byte{27, 1, 0, 0, 0, 1}, append(make([]byte, 32), 0, 1, 0, 0, 0, 0)...), api.ErrArg},
		{append([]byte{27, 1, 0, 0, 1, 1}, append(make([]byte, 32), 0, 1, 0, 0, 0, 11)...), api.ErrRange},
		{append([]byte{27, 1, 0, 0, 1, 1}, append(make([]byte, 32), 0, 1, 0, 0, 0, 0)...), api.OK},
	} {
		if x, e := tx.Parse(c.b); e != c.e || e != api.OK && !tx.Same(x, api.Tx{}) {
			t.Errorf("Parse(%v): %+v %v, want %v", c.b[:min(len(c.b), 50)], x, e, c.e)
		}
	}
}

func TestNotKept(t *testing.T) {
	b := tx.Bytes(good(rand.New(rand.NewSource(5)), tx.Claim))
	x, _ := tx.Parse(b)
	clear(b)
	if len(tx.Bytes(x)) != len(b) {
		t.Error("bytes are kept")
	}
	before := tx.Bytes(x)
	for i := range x.Claim.Leaves {
		x.Claim.Leaves[i].Proof = append(x.Claim.Leaves[i].Proof, api.Hash{})
		x.Claim.Leaves[i].Proof = x.Claim.Leaves[i].Proof[:len(x.Claim.Leaves[i].Proof)-1]
	}
	if !bytes.Equal(tx.Bytes(x), before) {
		t.Error("proofs share memory")
	}
	if !tx.Same(api.Tx{}, api.Tx{N: []int{}, A: []api.U{}, H: []api.Hash{}}) {
		t.Error("empty lists are none")
	}
}
