package event_test

import (
	"bytes"
	"math"
	"math/rand"
	"slices"
	"strings"
	"testing"

	"tallage/api"
	"tallage/event"
)

var most = api.U{math.MaxUint64, math.MaxUint64, math.MaxUint64, math.MaxUint64}

const words = "mint pause strategy allow transfer deposit donate operator delegate exit complete delay service set join leave allocate mature slash burn submit post disable claimer claim split"

func TestNames(t *testing.T) {
	for i, word := range strings.Fields(words) {
		if got := event.Name(i + 1); got != word {
			t.Errorf("Name(%d): %s", i+1, got)
		}
	}
	for _, kind := range []int{0, 27, -1, math.MinInt, math.MaxInt} {
		if got := event.Name(kind); got != "unknown" {
			t.Errorf("Name(%d): %s", kind, got)
		}
	}
}

func TestNew(t *testing.T) {
	room := []int{1, -5, math.MaxInt, 77}
	e := event.New(6, room[:3]...)
	if e.Kind != 6 || !slices.Equal(e.L, []api.U{{1}, {}, {math.MaxInt}}) || room[1] != -5 {
		t.Errorf("New: %v", e)
	}
	if e := event.New(99); e.Kind != 99 || len(e.L) != 0 {
		t.Errorf("New without numbers: %v", e)
	}
	e.L = append(make([]api.U, 0, 10), e.L...)
	l := []api.U{{7}, most}
	a := event.With(e, l...)
	b := event.With(e, api.U{8})
	l[0] = api.U{}
	if !slices.Equal(a.L, []api.U{{1}, {}, {math.MaxInt}, {7}, most}) || !slices.Equal(b.L, []api.U{{1}, {}, {math.MaxInt}, {8}}) || len(e.L) != 3 || a.Kind != 6 {
		t.Errorf("With: %v %v %v", a, b, e)
	}
	if e.L[:4][3] != (api.U{}) {
		t.Error("With wrote behind the end of its argument")
	}
	c := event.With(e)
	c.L[0] = api.U{9}
	if e.L[0] != (api.U{1}) {
		t.Error("With shares memory")
	}
}

func TestText(t *testing.T) {
	for want, e := range map[string]api.Event{"deposit 1 2": event.New(6, 1, 2), "mint": event.New(1), "unknown 0": event.New(0, 0),
		"split 115792089237316195423570985008687907853269984665640564039457584007913129639935": event.With(event.New(26), most)} {
		if got := event.Text(e); got != want {
			t.Errorf("%s: %s", want, got)
		}
	}
}

func TestBytes(t *testing.T) {
	l := []api.Event{event.New(6, 1, 300), event.New(26), event.With(event.New(1), api.U{0, 1})}
	if got := event.Bytes(l); !bytes.Equal(got, []byte{3, 6, 2, 1, 1, 2, 1, 44, 26, 0, 1, 1, 9, 1, 0, 0, 0, 0, 0, 0, 0, 0}) {
		t.Errorf("Bytes: %v", got)
	}
	if got := event.Bytes(nil); !bytes.Equal(got, []byte{0}) {
		t.Errorf("Bytes of nothing: %v", got)
	}
	many := slices.Repeat([]api.Event{event.New(5, 1)}, 1001)
	if got := event.Bytes(many[:1000]); len(got) != 2+1000*4 {
		t.Errorf("Bytes of 1000 events: %d", len(got))
	}
	long := api.Event{Kind: 5, L: make([]api.U, 101)}
	short := api.Event{Kind: 5, L: long.L[:100]}
	if got := event.Bytes([]api.Event{short}); len(got) != 103 {
		t.Errorf("Bytes of 100 numbers: %d", len(got))
	}
	for what, l := range map[string][]api.Event{"many": many, "long": {short, long}, "Kind 0": {{}}, "Kind 27": {event.New(27)}, "Kind -1": {event.New(-1)}, "Kind": {event.New(math.MaxInt)}} {
		if got := event.Bytes(l); len(got) != 0 {
			t.Errorf("%s: %d bytes", what, len(got))
		}
		if got := event.Result(api.OK, l); len(got) != 0 {
			t.Errorf("Result of %s: %d bytes", what, len(got))
		}
	}
}

func TestParseErrors(t *testing.T) {
	for _, c := range []struct {
		b []byte
		e api.Errno
	}{
		{nil, api.ErrShort}, {[]byte{0, 0}, api.ErrBad}, {[]byte{1}, api.ErrShort}, {[]byte{1, 0}, api.ErrBad}, {[]byte{1, 0, 101}, api.ErrBad}, {[]byte{1, 27}, api.ErrRange},
		{[]byte{1, 128, 0}, api.ErrBad}, {[]byte{1, 6}, api.ErrShort}, {[]byte{1, 6, 101}, api.ErrRange}, {[]byte{1, 6, 1}, api.ErrShort},
		{[]byte{1, 6, 1, 33}, api.ErrBad}, {[]byte{1, 6, 2, 0, 1, 0}, api.ErrBad}, {[]byte{2, 6, 0}, api.ErrShort}, {[]byte{1, 6, 0, 6}, api.ErrBad},
		{[]byte{233, 7}, api.ErrRange}, {[]byte{232, 7}, api.ErrShort}, {[]byte{128, 0}, api.ErrBad}, {[]byte{2, 6, 0, 0, 0}, api.ErrBad},
	} {
		if l, e := event.Parse(c.b); e != c.e || len(l) != 0 {
			t.Errorf("Parse(%v): %v %v", c.b, l, e)
		}
		code, l, e := event.ToResult(append([]byte{5}, c.b...))
		if e != c.e || len(l) != 0 || code != api.OK {
			t.Errorf("ToResult(5, %v): %v %v %v", c.b, code, l, e)
		}
	}
	for _, c := range []struct {
		b []byte
		e api.Errno
	}{{nil, api.ErrShort}, {[]byte{20, 0}, api.ErrRange}, {[]byte{20}, api.ErrRange}, {[]byte{128, 0, 0}, api.ErrBad}, {[]byte{19}, api.ErrShort}} {
		code, l, e := event.ToResult(c.b)
		if e != c.e || len(l) != 0 || code != api.OK {
			t.Errorf("ToResult(%v): %v %v %v", c.b, code, l, e)
		}
	}
}

func TestResult(t *testing.T) {
	l := []api.Event{event.New(6, 1)}
	for code := api.OK; code <= api.ErrLong; code++ {
		b := event.Result(code, l)
		if !bytes.Equal(b, []byte{byte(code), 1, 6, 1, 1, 1}) {
			t.Errorf("Result(%d): %v", code, b)
		}
		if got, m, e := event.ToResult(b); got != code || e != api.OK || !event.Same(m, l) {
			t.Errorf("ToResult(%v): %v %v %v", b, got, m, e)
		}
	}
	for _, code := range []api.Errno{-1, 20, math.MaxInt, math.MinInt} {
		if b := event.Result(code, l); len(b) != 0 {
			t.Errorf("Result(%d): %v", code, b)
		}
	}
	if b := event.Result(api.ErrBad, nil); !bytes.Equal(b, []byte{4, 0}) {
		t.Errorf("Result without events: %v", b)
	}
}

func TestThereAndBack(t *testing.T) {
	r := rand.New(rand.NewSource(1))
	for range 500 {
		l := make([]api.Event, r.Intn(6))
		for i := range l {
			l[i].Kind = 1 + r.Intn(26)
			for range r.Intn(5) {
				l[i].L = append(l[i].L, api.U{r.Uint64() >> uint(r.Intn(64)), r.Uint64() * uint64(r.Intn(2))})
			}
		}
		b := event.Bytes(l)
		got, e := event.Parse(b)
		if e != api.OK || !event.Same(got, l) || !bytes.Equal(event.Bytes(got), b) {
			t.Fatalf("%v: %v %v", l, got, e)
		}
	}
}

func TestSame(t *testing.T) {
	a := []api.Event{event.New(6, 1), event.New(7)}
	if !event.Same(nil, []api.Event{}) || !event.Same(a, []api.Event{event.New(6, 1), {Kind: 7, L: []api.U{}}}) {
		t.Error("alike")
	}
	for _, b := range [][]api.Event{nil, a[:1], {event.New(6, 2), event.New(7)}, {event.New(5, 1), event.New(7)}, {event.New(6, 1), event.New(7, 0)}, {a[1], a[0]}} {
		if event.Same(a, b) || event.Same(b, a) {
			t.Error(b)
		}
	}
}
