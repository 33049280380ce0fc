package store_test

import (
	"maps"
	"math"
	"math/rand"
	"slices"
	"strconv"
	"strings"
	"testing"

	"tallage/api"
	"tallage/store"
)

// pairs tells what a table of these entries has under begin.
func pairs(m map[string]string, begin string) []api.Pair {
	var l []api.Pair
	for _, k := range slices.Sorted(maps.Keys(m)) {
		if strings.HasPrefix(k, begin) {
			l = append(l, api.Pair{Key: k, Value: m[k]})
		}
	}
	return l
}

func check(t *testing.T, s *store.Store, m map[string]string, mark int) {
	t.Helper()
	if s.Len() != len(m) || s.Mark() != mark {
		t.Fatalf("Len %d, Mark %d, want %d, %d", s.Len(), s.Mark(), len(m), mark)
	}
	if got := s.All(); !slices.Equal(got, pairs(m, "")) {
		t.Fatalf("All: %q, want %q", got, pairs(m, ""))
	}
	for k, v := range m {
		if got, ok := s.Get(k); !ok || got != v {
			t.Fatalf("Get(%q): %q %v", k, got, ok)
		}
	}
}

// TestModel plays changes on a store, and on a map of which each state is kept.
func TestModel(t *testing.T) {
	for seed := range int64(12) {
		r := rand.New(rand.NewSource(seed))
		keys := 3 + r.Intn(900)
		s, m := store.New(), map[string]string{}
		past := []map[string]string{{}}
		for i := range 3000 {
			k, v := key(r, keys), strconv.Itoa(r.Intn(3))
			was, had := m[k]
			switch n := r.Intn(100); {
			case n < 60:
				if e := s.Set(k, v); e != api.OK {
					t.Fatal(e)
				}
				if !had || was != v {
					m[k] = v
					past = append(past, maps.Clone(m))
				}
			case n < 92:
				if s.Delete(k) != had {
					t.Fatalf("Delete(%q)", k)
				}
				if had {
					delete(m, k)
					past = append(past, maps.Clone(m))
				}
			case n < 95:
				mark := len(past) - 1 - r.Intn(min(len(past), 40))
				if !s.Undo(mark) {
					t.Fatal("Undo", mark)
				}
				m, past = maps.Clone(past[mark]), past[:mark+1]
			case n < 97:
				c := s.Copy()
				s.Set("only here", "1")
				s.Undo(0)
				s = c
			case n == 97 && r.Intn(6) == 0:
				s.Settle()
				past = []map[string]string{maps.Clone(m)}
			}
			if i%50 == 0 {
				check(t, s, m, len(past)-1)
				begin := key(r, keys)
				begin = begin[:1+r.Intn(len(begin))]
				if got := s.Under(begin); !slices.Equal(got, pairs(m, begin)) {
					t.Fatalf("Under(%q): %q", begin, got)
				}
			}
		}
		for mark := len(past) - 1; mark >= 0; mark -= 1 + r.Intn(100) {
			if !s.Undo(mark) {
				t.Fatal("Undo", mark)
			}
			check(t, s, past[mark], mark)
		}
	}
}

func key(r *rand.Rand, most int) string {
	n := r.Intn(most)
	return strings.Repeat(string([]byte{byte(n * 37), 255}), n%3) + string([]byte{byte(n), byte(n >> 8)})
}

// TestMany fills a store with more keys than stand together, in several orders.
func TestMany(t *testing.T) {
	for _, order := range []string{"rising", "falling", "mixed"} {
		n := 5000
		l := make([]int, n)
		for i := range l {
			l[i] = i
		}
		if order == "falling" {
			slices.Reverse(l)
		}
		if order == "mixed" {
			rand.New(rand.NewSource(1)).Shuffle(n, func(i, j int) { l[i], l[j] = l[j], l[i] })
		}
		s := store.New()
		for _, i := range l {
			s.Set(string([]byte{byte(i >> 8), byte(i)}), "x")
		}
		for i, p := range s.All() {
			if p.Key != string([]byte{byte(i >> 8), byte(i)}) {
				t.Fatalf("%s: %q at %d", order, p.Key, i)
			}
		}
		if got := s.Under("\x07"); len(got) != 256 || got[0].Key != "\x07\x00" || got[255].Key != "\x07\xff" {
			t.Errorf("%s: Under has %d", order, len(got))
		}
		for _, i := range l {
			if !s.Delete(string([]byte{byte(i >> 8), byte(i)})) {
				t.Fatalf("%s: %d is gone", order, i)
			}
		}
		if s.Len() != 0 || len(s.All()) != 0 || s.Mark() != 2*n || !s.Undo(n) || s.Len() != n {
			t.Errorf("%s: %d entries behind Undo", order, s.Len())
		}
	}
}

func TestChanges(t *testing.T) {
	s := store.New()
	s.Set("a", "1")
	if s.Mark() != 1 {
		t.Error("a key that was made is no change")
	}
	if e := s.Set("a", "1"); e != api.OK || s.Mark() != 1 {
		t.Error("the same value is a change")
	}
	s.Set("a", "2")
	if !s.Undo(1) || s.Mark() != 1 {
		t.Error("Undo(1)")
	}
	if v, ok := s.Get("a"); v != "1" || !ok {
		t.Error("Get", v, ok)
	}
	if s.Delete("b") || s.Mark() != 1 {
		t.Error("Delete of nothing is a change")
	}
	if !s.Delete("a") || s.Mark() != 2 || s.Delete("a") {
		t.Error("Delete")
	}
	if !s.Undo(2) || s.Mark() != 2 {
		t.Error("Undo of nothing")
	}
	for _, mark := range []int{-1, 3, math.MinInt, math.MaxInt} {
		if s.Undo(mark) || s.Mark() != 2 {
			t.Error("Undo", mark)
		}
	}
	c := s.Copy()
	s.Settle()
	if s.Mark() != 0 || s.Undo(1) || !s.Undo(0) || s.Len() != 0 {
		t.Error("Settle")
	}
	if c.Mark() != 2 || !c.Undo(1) || c.Len() != 1 || s.Len() != 0 {
		t.Error("a copy has its changes")
	}
	s.Set("", "1")
	if e := s.Set("", "1"); e != api.ErrArg || s.Len() != 0 || s.Mark() != 0 {
		t.Error("the empty key", e)
	}
	if v, ok := s.Get(""); v != "" || ok || s.Delete("") {
		t.Error("something is at the empty key")
	}
	s.Set("e", "")
	if v, ok := s.Get("e"); v != "" || !ok || s.Len() != 1 {
		t.Error("an empty value")
	}
}

func TestAnswers(t *testing.T) {
	s := store.New()
	s.Set("a", "1")
	s.Set("b", "2")
	l := s.All()
	l[0].Value = "9"
	l = append(l[:1], api.Pair{Key: "z"})
	if got := s.All(); !slices.Equal(got, []api.Pair{{Key: "a", Value: "1"}, {Key: "b", Value: "2"}}) || l[1].Key != "z" {
		t.Errorf("All: %q", got)
	}
	if len(s.Under("c")) != 0 || len(s.Under("a\x00")) != 0 || len(s.Under("")) != 2 {
		t.Error("Under")
	}
}

func TestNoStore(t *testing.T) {
	for _, s := range []*store.Store{nil, {}} {
		if s.Made() || s.Set("a", "1") != api.ErrMade || s.Set("", "1") != api.ErrMade || s.Delete("a") {
			t.Error("something is done")
		}
		if v, ok := s.Get("a"); v != "" || ok {
			t.Error("something is there")
		}
		s.Settle()
		if s.Mark() != 0 || s.Undo(0) || s.Len() != 0 || len(s.All()) != 0 || len(s.Under("")) != 0 || s.Copy() != nil {
			t.Error("something is told")
		}
	}
	if !store.New().Made() || store.New().Len() != 0 {
		t.Error("New")
	}
}
