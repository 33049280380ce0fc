package cell_test

import (
	"math"
	"math/rand"
	"slices"
	"strings"
	"testing"

	"tallage/api"
	"tallage/cell"
	"tallage/keys"
	"tallage/store"
	"tallage/u256"
	"tallage/wad"
)

var huge = api.U{math.MaxUint64, math.MaxUint64, math.MaxUint64, math.MaxUint64}

func less(a api.U, n uint64) api.U {
	rest, _ := u256.Sub(a, u256.Of(n))
	return rest
}

func TestInt(t *testing.T) {
	s := store.New()
	for _, n := range []int{1, 258, math.MaxInt} {
		cell.SetInt(s, "k", n)
		if v, _ := s.Get("k"); v != keys.Num(n) || cell.Int(s, "k") != n {
			t.Errorf("%d: %q", n, v)
		}
	}
	for _, n := range []int{0, -1, math.MinInt} {
		cell.SetInt(s, "k", 5)
		cell.SetInt(s, "k", n)
		if s.Len() != 0 || cell.Int(s, "k") != 0 {
			t.Errorf("%d is there", n)
		}
	}
	for _, v := range []string{"", "1", strings.Repeat("1", 16), strings.Repeat("\xff", 8), strings.Repeat("1", 32)} {
		s.Set("v", v)
		if n := cell.Int(s, "v"); n != 0 {
			t.Errorf("%q: %d", v, n)
		}
	}
	if cell.Int(s, "none") != 0 {
		t.Error("none")
	}
}

func TestAmount(t *testing.T) {
	s := store.New()
	for _, a := range []api.U{{1}, wad.Most(), huge} {
		cell.SetAmount(s, "k", a)
		if v, _ := s.Get("k"); v != keys.Amount(a) || cell.Amount(s, "k") != a {
			t.Errorf("%v: %q", a, v)
		}
	}
	cell.SetAmount(s, "k", api.U{})
	if s.Len() != 0 || cell.Amount(s, "k") != (api.U{}) {
		t.Error("0 is there")
	}
	s.Set("v", strings.Repeat("1", 31))
	if cell.Amount(s, "v") != (api.U{}) {
		t.Error("31 bytes")
	}
}

func TestRow(t *testing.T) {
	s := store.New()
	l := []int{3, 0, math.MaxInt, 9}
	cell.SetRow(s, "k", l[:3])
	if !slices.Equal(l, []int{3, 0, math.MaxInt, 9}) {
		t.Error("the argument has changed")
	}
	if v, _ := s.Get("k"); v != keys.Num(3)+keys.Num(0)+keys.Num(math.MaxInt) {
		t.Errorf("%q", v)
	}
	got := cell.Row(s, "k")
	got[0] = 7
	if !slices.Equal(cell.Row(s, "k"), l[:3]) {
		t.Error("Row", cell.Row(s, "k"))
	}
	mark := s.Mark()
	cell.SetRow(s, "k", []int{1, -1})
	cell.SetRow(s, "none", []int{-1})
	if s.Mark() != mark {
		t.Error("a row with a number below 0 is set")
	}
	cell.SetRow(s, "k", nil)
	if s.Len() != 0 || len(cell.Row(s, "k")) != 0 {
		t.Error("an empty row is there")
	}
	s.Set("v", "123")
	if len(cell.Row(s, "v")) != 0 {
		t.Error("no row")
	}
}

func TestNext(t *testing.T) {
	s := store.New()
	for want := 1; want < 4; want++ {
		if n := cell.Next(s, "k"); n != want || cell.Int(s, "k") != want {
			t.Error(n)
		}
	}
	cell.SetInt(s, "k", math.MaxInt-1)
	if cell.Next(s, "k") != math.MaxInt || cell.Next(s, "k") != math.MaxInt || cell.Int(s, "k") != math.MaxInt {
		t.Error("the end")
	}
}

func TestAddAndSub(t *testing.T) {
	s := store.New()
	if cell.Add(s, "k", u256.Of(5)) != api.OK || cell.Amount(s, "k") != u256.Of(5) || cell.Sub(s, "k", u256.Of(5)) != api.OK || s.Len() != 0 {
		t.Error("5")
	}
	mark := s.Mark()
	if cell.Sub(s, "k", u256.Of(1)) != api.ErrFunds || cell.Add(s, "k", huge) != api.ErrOver || cell.Sub(s, "k", api.U{}) != api.OK || cell.Add(s, "k", api.U{}) != api.OK || s.Mark() != mark {
		t.Error("of nothing")
	}
	if cell.Add(s, "k", wad.Most()) != api.OK || cell.Add(s, "k", u256.Of(1)) != api.ErrOver || cell.Add(s, "k", huge) != api.ErrOver || cell.Amount(s, "k") != wad.Most() {
		t.Error("the most")
	}
	if cell.Sub(s, "k", u256.Of(1)) != api.OK || cell.Amount(s, "k") != less(wad.Most(), 1) || cell.Sub(s, "k", wad.Most()) != api.ErrFunds {
		t.Error("one less")
	}
	cell.SetAmount(s, "k", huge)
	if cell.Add(s, "k", u256.Of(1)) != api.ErrOver || cell.Add(s, "k", api.U{}) != api.ErrOver || cell.Sub(s, "k", huge) != api.OK || s.Len() != 0 {
		t.Error("beyond the most")
	}
}

func TestMove(t *testing.T) {
	s := store.New()
	cell.SetAmount(s, "a", u256.Of(10))
	if cell.Move(s, "a", "b", u256.Of(11)) != api.ErrFunds || cell.Move(s, "a", "a", u256.Of(11)) != api.ErrFunds || s.Mark() != 1 {
		t.Error("too much")
	}
	if cell.Move(s, "a", "a", u256.Of(10)) != api.OK || cell.Move(s, "c", "b", api.U{}) != api.OK || s.Mark() != 1 {
		t.Error("to itself")
	}
	if cell.Move(s, "a", "b", u256.Of(4)) != api.OK || cell.Amount(s, "a") != u256.Of(6) || cell.Amount(s, "b") != u256.Of(4) {
		t.Error("4")
	}
	if cell.Move(s, "a", "b", u256.Of(6)) != api.OK || s.Len() != 1 {
		t.Error("all")
	}
	cell.SetAmount(s, "a", wad.Most())
	mark := s.Mark()
	if cell.Move(s, "b", "a", u256.Of(1)) != api.ErrOver || cell.Move(s, "b", "a", u256.Of(11)) != api.ErrFunds || cell.Move(s, "a", "a", u256.Of(1)) != api.OK || s.Mark() != mark {
		t.Error("over")
	}
}

// TestMoves: moves leave the sum as it is.
func TestMoves(t *testing.T) {
	r := rand.New(rand.NewSource(1))
	s := store.New()
	cell.SetAmount(s, "a", wad.Most())
	names := []string{"a", "b", "c"}
	for range 3000 {
		a := api.U{r.Uint64(), r.Uint64() >> uint(r.Intn(64))}
		cell.Move(s, names[r.Intn(3)], names[r.Intn(3)], a)
		var sum api.U
		for _, name := range names {
			sum, _ = u256.Add(sum, cell.Amount(s, name))
		}
		if sum != wad.Most() {
			t.Fatal(sum)
		}
	}
}

func TestEmptyKey(t *testing.T) {
	s := store.New()
	cell.SetInt(s, "", 5)
	cell.SetAmount(s, "", u256.Of(5))
	cell.SetRow(s, "", []int{5})
	if cell.Add(s, "", u256.Of(5)) != api.OK || cell.Sub(s, "", u256.Of(5)) != api.ErrFunds {
		t.Error("the empty key")
	}
	if s.Len() != 0 || cell.Int(s, "") != 0 || cell.Amount(s, "") != (api.U{}) || len(cell.Row(s, "")) != 0 {
		t.Error("something is there")
	}
	cell.SetAmount(s, "a", huge)
	if cell.Move(s, "", "a", u256.Of(1)) != api.ErrFunds || cell.Move(s, "a", "", huge) != api.ErrOver || cell.Amount(s, "a") != huge {
		t.Error("errors of moves")
	}
	cell.SetAmount(s, "a", u256.Of(9))
	if cell.Move(s, "a", "", u256.Of(4)) != api.OK || cell.Amount(s, "a") != u256.Of(5) || s.Len() != 1 {
		t.Error("what is moved there is gone")
	}
}

func TestNoStore(t *testing.T) {
	for _, s := range []*store.Store{nil, {}} {
		cell.SetInt(s, "k", 5)
		cell.SetAmount(s, "k", u256.Of(5))
		cell.SetRow(s, "k", []int{5})
		if cell.Int(s, "k") != 0 || cell.Amount(s, "k") != (api.U{}) || len(cell.Row(s, "k")) != 0 {
			t.Error("something is there")
		}
		if cell.Add(s, "k", wad.Most()) != api.OK || cell.Add(s, "k", huge) != api.ErrOver || cell.Sub(s, "k", u256.Of(1)) != api.ErrFunds ||
			cell.Sub(s, "k", api.U{}) != api.OK || cell.Move(s, "k", "l", u256.Of(1)) != api.ErrFunds || cell.Move(s, "k", "l", api.U{}) != api.OK {
			t.Error("errors")
		}
	}
}
