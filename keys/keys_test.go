package keys_test

import (
	"math"
	"math/rand"
	"slices"
	"strings"
	"testing"

	"tallage/api"
	"tallage/keys"
	"tallage/u256"
)

func TestKey(t *testing.T) {
	for _, c := range []struct {
		table int
		l     []int
		want  string
	}{
		{1, []int{2}, "\x01\x00\x00\x00\x00\x00\x00\x00\x02"}, {5, nil, "\x05"}, {255, []int{}, "\xff"},
		{7, []int{258, 0}, "\x07\x00\x00\x00\x00\x00\x00\x01\x02\x00\x00\x00\x00\x00\x00\x00\x00"},
		{1, []int{math.MaxInt}, "\x01\x7f\xff\xff\xff\xff\xff\xff\xff"},
		{0, []int{2}, ""}, {256, nil, ""}, {-1, nil, ""}, {257, []int{1}, ""}, {math.MinInt, nil, ""}, {math.MaxInt, nil, ""},
		{1, []int{-1}, ""}, {1, []int{1, 2, math.MinInt}, ""},
	} {
		if got := keys.Key(c.table, c.l...); got != c.want {
			t.Errorf("Key(%d, %v): %q", c.table, c.l, got)
		}
		if len(c.l) == 0 && keys.Table(c.table) != c.want {
			t.Errorf("Table(%d)", c.table)
		}
	}
}

func TestParse(t *testing.T) {
	r := rand.New(rand.NewSource(1))
	for range 2000 {
		table := 1 + r.Intn(255)
		l := make([]int, r.Intn(5))
		for i := range l {
			l[i] = int(r.Uint64() >> uint(1+r.Intn(63)))
		}
		key := keys.Key(table, l...)
		if got, m, ok := keys.Parse(key); !ok || got != table || !slices.Equal(m, l) {
			t.Fatalf("Parse(%q): %d %v %v", key, got, m, ok)
		}
	}
	for _, key := range []string{"", "\x00", "\x00" + strings.Repeat("\x01", 8), "\x01\x02", "\x01" + strings.Repeat("\x01", 7),
		"\x01" + strings.Repeat("\x01", 9), "\x01\x80\x00\x00\x00\x00\x00\x00\x00", "\x01" + strings.Repeat("\x01", 8) + strings.Repeat("\xff", 8)} {
		if table, l, ok := keys.Parse(key); ok || table != 0 || len(l) != 0 {
			t.Errorf("Parse(%q): %d %v %v", key, table, l, ok)
		}
	}
}

// TestOrder: keys of one table with as many numbers stand as the numbers do.
func TestOrder(t *testing.T) {
	r := rand.New(rand.NewSource(2))
	one := func() []int {
		return []int{int(r.Uint64() >> uint(1+r.Intn(63))), r.Intn(3) * 256}
	}
	for range 5000 {
		a, b := one(), one()
		if r.Intn(3) == 0 {
			b[0] = a[0]
		}
		x, y := keys.Key(3, a...), keys.Key(3, b...)
		if keys.Less(x, y) != (slices.Compare(a, b) < 0) || keys.Less(x, x) {
			t.Fatalf("%v and %v", a, b)
		}
	}
	if !keys.Less("", "a") || !keys.Less("a", "a\x00") || !keys.Less("\x7f", "\x80") || keys.Less("b", "ab") {
		t.Error("Less")
	}
}

func TestNums(t *testing.T) {
	for n, want := range map[int]string{0: "\x00\x00\x00\x00\x00\x00\x00\x00", -1: "\x00\x00\x00\x00\x00\x00\x00\x00",
		math.MinInt: "\x00\x00\x00\x00\x00\x00\x00\x00", 258: "\x00\x00\x00\x00\x00\x00\x01\x02", math.MaxInt: "\x7f\xff\xff\xff\xff\xff\xff\xff"} {
		if got := keys.Num(n); got != want {
			t.Errorf("Num(%d): %q", n, got)
		}
		if l, ok := keys.Nums(want + keys.Num(5)); !ok || !slices.Equal(l, []int{max(n, 0), 5}) {
			t.Errorf("Nums of %d and 5: %v %v", n, l, ok)
		}
	}
	if l, ok := keys.Nums(""); !ok || len(l) != 0 {
		t.Error("Nums of nothing", l, ok)
	}
	for _, v := range []string{"1", "1234567", "123456789", "\x80\x00\x00\x00\x00\x00\x00\x00", keys.Num(1) + strings.Repeat("\xff", 8)} {
		if l, ok := keys.Nums(v); ok || len(l) != 0 {
			t.Errorf("Nums(%q): %v %v", v, l, ok)
		}
	}
}

func TestAmounts(t *testing.T) {
	for _, a := range []api.U{{}, {1}, {258}, {0, 1}, {1, 2, 3, 4}, {math.MaxUint64, math.MaxUint64, math.MaxUint64, math.MaxUint64}} {
		v := keys.Amount(a)
		if v != string(u256.Bytes(a)) {
			t.Errorf("Amount(%v): %q", a, v)
		}
		if got, ok := keys.ToAmount(v); !ok || got != a {
			t.Errorf("ToAmount(%q): %v %v", v, got, ok)
		}
	}
	for _, v := range []string{"", "1", strings.Repeat("1", 31), strings.Repeat("1", 33)} {
		if got, ok := keys.ToAmount(v); ok || got != (api.U{}) {
			t.Errorf("ToAmount(%q): %v %v", v, got, ok)
		}
	}
}

// TestArguments: the numbers that are handed in stay as they are.
func TestArguments(t *testing.T) {
	room := []int{1, 2, 3, 4}
	keys.Key(1, room[:2]...)
	if !slices.Equal(room, []int{1, 2, 3, 4}) {
		t.Error(room)
	}
}
