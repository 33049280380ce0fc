package octet_test

import (
	"bytes"
	"math"
	"math/rand"
	"testing"

	"tallage/api"
	"tallage/octet"
	"tallage/u256"
)

var most = api.U{math.MaxUint64, math.MaxUint64, math.MaxUint64, math.MaxUint64}

func TestVarBytes(t *testing.T) {
	for _, c := range []struct {
		n    int
		want []byte
	}{
		{0, []byte{0}}, {-1, []byte{0}}, {math.MinInt, []byte{0}}, {1, []byte{1}}, {127, []byte{127}},
		{128, []byte{128, 1}}, {300, []byte{172, 2}}, {16383, []byte{255, 127}}, {16384, []byte{128, 128, 1}},
		{math.MaxInt, []byte{255, 255, 255, 255, 255, 255, 255, 255, 127}},
	} {
		if got := octet.Var(nil, c.n); !bytes.Equal(got, c.want) {
			t.Errorf("Var(%d): %v", c.n, got)
		}
	}
}

func TestAmountBytes(t *testing.T) {
	for _, c := range []struct {
		a    api.U
		want []byte
	}{
		{api.U{}, []byte{0}}, {u256.Of(1), []byte{1, 1}}, {u256.Of(255), []byte{1, 255}}, {u256.Of(258), []byte{2, 1, 2}},
		{api.U{0, 1}, []byte{9, 1, 0, 0, 0, 0, 0, 0, 0, 0}},
		{most, append([]byte{32}, bytes.Repeat([]byte{255}, 32)...)},
	} {
		if got := octet.Amount(nil, c.a); !bytes.Equal(got, c.want) {
			t.Errorf("Amount(%v): %v", c.a, got)
		}
	}
}

// TestFresh: what is told begins with what was there, and shares nothing with
// it, not even the room behind its end.
func TestFresh(t *testing.T) {
	puts := map[string]func([]byte) []byte{
		"Var":    func(b []byte) []byte { return octet.Var(b, 300) },
		"Amount": func(b []byte) []byte { return octet.Amount(b, u256.Of(258)) },
		"Hash":   func(b []byte) []byte { return octet.Hash(b, api.Hash{1, 2}) },
		"Text":   func(b []byte) []byte { return octet.Text(b, []byte{7, 8}) },
	}
	for name, put := range puts {
		room := bytes.Repeat([]byte{9}, 100)
		got := put(room[:3:100])
		if !bytes.Equal(room, bytes.Repeat([]byte{9}, 100)) {
			t.Errorf("%s wrote into its argument's room: %v", name, room)
		}
		if !bytes.Equal(got[:3], []byte{9, 9, 9}) || !bytes.Equal(got[3:], put(nil)) {
			t.Errorf("%s: %v", name, got)
		}
		clear(got[:cap(got)])
		if !bytes.Equal(room, bytes.Repeat([]byte{9}, 100)) {
			t.Errorf("%s shares its argument's memory", name)
		}
	}
	text := []byte{1, 2, 3}
	got := octet.Text(nil, text)
	text[0] = 9
	if !bytes.Equal(got, []byte{3, 1, 2, 3}) {
		t.Errorf("Text: %v", got)
	}
	if got := octet.Hash(nil, api.Hash{1, 31: 5}); len(got) != 32 || got[0] != 1 || got[31] != 5 {
		t.Errorf("Hash: %v", got)
	}
	if got := octet.Text(nil, nil); !bytes.Equal(got, []byte{0}) {
		t.Errorf("Text of nothing: %v", got)
	}
}

func TestVarErrors(t *testing.T) {
	go9 := bytes.Repeat([]byte{255}, 9)
	for _, c := range []struct {
		b    []byte
		most int
		n    int
		e    api.Errno
	}{
		{nil, 5, 0, api.ErrShort}, {[]byte{128}, 5, 0, api.ErrShort}, {go9[:8], 5, 0, api.ErrShort}, {go9, 5, 0, api.ErrShort},
		{append(go9[:9:9], 0), math.MaxInt, 0, api.ErrBad}, {append(go9[:9:9], 1), math.MaxInt, 0, api.ErrBad},
		{append(go9[:9:9], 255), math.MaxInt, 0, api.ErrBad},
		{[]byte{128, 0}, 5, 0, api.ErrBad}, {[]byte{255, 0}, 500, 0, api.ErrBad}, {[]byte{255, 255, 0}, 1, 0, api.ErrBad},
		{append(go9[:8:8], 127), math.MaxInt, math.MaxInt, api.OK}, {append(go9[:8:8], 0), math.MaxInt, 0, api.ErrBad},
		{append(go9[:8:8], 127), math.MaxInt - 1, 0, api.ErrRange},
		{[]byte{5}, 5, 5, api.OK}, {[]byte{6}, 5, 0, api.ErrRange}, {[]byte{0}, 0, 0, api.OK}, {[]byte{0}, -1, 0, api.ErrRange},
		{[]byte{172, 2}, 300, 300, api.OK}, {[]byte{172, 2}, 299, 0, api.ErrRange},
	} {
		s := octet.Read(c.b)
		if n := s.Var(c.most); n != c.n || s.Err() != c.e {
			t.Errorf("Var(%d) of %v: %d %v", c.most, c.b, n, s.Err())
		}
	}
}

func TestAmountErrors(t *testing.T) {
	for _, c := range []struct {
		b []byte
		a api.U
		e api.Errno
	}{
		{nil, api.U{}, api.ErrShort}, {[]byte{0}, api.U{}, api.OK}, {[]byte{0, 0}, api.U{}, api.OK}, {[]byte{1}, api.U{}, api.ErrShort},
		{[]byte{1, 0}, api.U{}, api.ErrBad}, {[]byte{1, 7}, u256.Of(7), api.OK}, {[]byte{2, 0}, api.U{}, api.ErrBad},
		{[]byte{2, 1}, api.U{}, api.ErrShort}, {[]byte{33}, api.U{}, api.ErrBad}, {append([]byte{33}, bytes.Repeat([]byte{1}, 40)...), api.U{}, api.ErrBad},
		{[]byte{255}, api.U{}, api.ErrBad}, {append([]byte{32}, bytes.Repeat([]byte{255}, 32)...), most, api.OK},
		{append([]byte{32}, bytes.Repeat([]byte{255}, 31)...), api.U{}, api.ErrShort},
	} {
		s := octet.Read(c.b)
		if a := s.Amount(); a != c.a || s.Err() != c.e {
			t.Errorf("Amount of %v: %v %v", c.b, a, s.Err())
		}
	}
}

func TestTextErrors(t *testing.T) {
	for _, c := range []struct {
		b    []byte
		most int
		want []byte
		e    api.Errno
	}{
		{nil, 5, nil, api.ErrShort}, {[]byte{0}, 0, nil, api.OK}, {[]byte{2, 7}, 5, nil, api.ErrShort}, {[]byte{2, 7, 8, 9}, 5, []byte{7, 8}, api.OK},
		{[]byte{6}, 5, nil, api.ErrRange}, {[]byte{128, 0}, 5, nil, api.ErrBad},
	} {
		s := octet.Read(c.b)
		if got := s.Text(c.most); !bytes.Equal(got, c.want) || s.Err() != c.e {
			t.Errorf("Text(%d) of %v: %v %v", c.most, c.b, got, s.Err())
		}
	}
	for n := range 32 {
		s := octet.Read(bytes.Repeat([]byte{1}, n))
		if h := s.Hash(); h != (api.Hash{}) || s.Err() != api.ErrShort {
			t.Errorf("Hash of %d bytes: %v %v", n, h, s.Err())
		}
	}
	s := octet.Read(nil)
	if b := s.Byte(); b != 0 || s.Err() != api.ErrShort {
		t.Error("Byte of nothing", b, s.Err())
	}
}

// TestKept: the first error is kept, and nothing is told behind it.
func TestKept(t *testing.T) {
	s := octet.Read([]byte{9, 1, 2, 3, 4})
	if s.Left() != 5 || s.Var(5) != 0 || s.Err() != api.ErrRange {
		t.Fatal("no error", s.Err())
	}
	if s.Var(9) != 0 || s.Byte() != 0 || s.Amount() != (api.U{}) || s.Hash() != (api.Hash{}) || len(s.Text(9)) != 0 || s.Left() != 0 {
		t.Error("something is told behind an error")
	}
	if s.Err() != api.ErrRange || s.End() != api.ErrRange {
		t.Error("another error is told", s.Err())
	}
	s = octet.Read([]byte{1, 2})
	if s.Byte() != 1 || s.Left() != 1 || s.End() != api.ErrBad || s.Err() != api.ErrBad || s.Byte() != 0 || s.Left() != 0 {
		t.Error("End with bytes left")
	}
	s = octet.Read([]byte{1})
	if s.Byte() != 1 || s.End() != api.OK || s.Left() != 0 || s.Err() != api.OK {
		t.Error("End")
	}
}

func TestNoSource(t *testing.T) {
	for _, s := range []*octet.Source{nil, {}} {
		if s.Var(9) != 0 || s.Byte() != 0 || s.Amount() != (api.U{}) || s.Hash() != (api.Hash{}) || len(s.Text(9)) != 0 || s.Left() != 0 {
			t.Error("something is told")
		}
		if s.Err() != api.ErrMade || s.End() != api.ErrMade || s.Err() != api.ErrMade {
			t.Error("another error", s.Err())
		}
	}
}

// TestNotKept: what was handed in, or told, can be changed by who has it.
func TestNotKept(t *testing.T) {
	b := []byte{2, 7, 8, 2, 7, 8}
	s := octet.Read(b)
	clear(b)
	first := s.Text(9)
	first = append(first, 1, 1, 1)
	clear(first)
	if second := s.Text(9); !bytes.Equal(second, []byte{7, 8}) || s.End() != api.OK {
		t.Error("second text", second, s.Err())
	}
}

func TestThereAndBack(t *testing.T) {
	r := rand.New(rand.NewSource(1))
	for range 2000 {
		n := int(r.Uint64() >> uint(1+r.Intn(63)))
		var a api.U
		for i := range r.Intn(5) {
			a[i] = r.Uint64() >> uint(r.Intn(64))
		}
		var h api.Hash
		r.Read(h[:])
		text := make([]byte, r.Intn(300))
		r.Read(text)
		b := octet.Text(octet.Hash(octet.Amount(octet.Var(nil, n), a), h), text)
		s := octet.Read(b)
		if m := s.Var(math.MaxInt); m != n {
			t.Fatalf("Var: %d, want %d", m, n)
		}
		if c := s.Amount(); c != a {
			t.Fatalf("Amount: %v, want %v", c, a)
		}
		if g := s.Hash(); g != h {
			t.Fatalf("Hash: %v, want %v", g, h)
		}
		if got := s.Text(300); !bytes.Equal(got, text) || s.End() != api.OK {
			t.Fatalf("Text: %v, want %v", got, text)
		}
	}
}

// TestOneWay: bytes that are read whole are put just so.
func TestOneWay(t *testing.T) {
	r := rand.New(rand.NewSource(2))
	read := 0
	for range 200000 {
		b := make([]byte, r.Intn(5))
		for i := range b {
			b[i] = byte(r.Intn(4) * 64)
			if r.Intn(2) == 0 {
				b[i] = byte(r.Intn(4))
			}
		}
		if s := octet.Read(b); true {
			n := s.Var(math.MaxInt)
			if s.End() == api.OK {
				read++
				if !bytes.Equal(octet.Var(nil, n), b) {
					t.Fatalf("Var: %v is %d", b, n)
				}
			}
		}
		if s := octet.Read(b); true {
			a := s.Amount()
			if s.End() == api.OK && !bytes.Equal(octet.Amount(nil, a), b) {
				t.Fatalf("Amount: %v is %v", b, a)
			}
		}
		if s := octet.Read(b); true {
			text := s.Text(9)
			if s.End() == api.OK && !bytes.Equal(octet.Text(nil, text), b) {
				t.Fatalf("Text: %v is %v", b, text)
			}
		}
	}
	if read < 1000 {
		t.Error("too few were read whole", read)
	}
}
