package script_test

import (
	"bytes"
	"crypto/sha256"
	"math"
	"math/rand"
	"slices"
	"testing"

	"tallage/api"
	"tallage/event"
	"tallage/script"
	"tallage/tx"
	"tallage/view"
)

var settings = api.Settings{Owner: 1, Pauser: 2, Updater: 3, Delay: 5, Tail: 4, Config: 2, Active: 300}

func of(x api.Tx) script.Item { return script.Item{Tx: tx.Bytes(x)} }

func TestGood(t *testing.T) {
	for _, l := range [][]script.Item{nil, {}, {{}}, {{Tick: 1}}, {{Tick: 1_000_000, Tx: []byte{}}}, {{Tx: make([]byte, 4096)}}, make([]script.Item, 10_000)} {
		if !script.Good(settings, l) {
			t.Error(len(l))
		}
		if script.Good(api.Settings{}, l) || len(script.Encode(api.Settings{}, l)) != 0 {
			t.Error("settings that may not be")
		}
	}
	for i, l := range [][]script.Item{{{Tick: -1}}, {{Tick: 1_000_001}}, {{Tick: 1, Tx: []byte{1}}}, {{Tx: make([]byte, 4097)}}, {{}, {Tick: math.MinInt}}, {{Tick: math.MaxInt}}, make([]script.Item, 10_001)} {
		if script.Good(settings, l) || len(script.Encode(settings, l)) != 0 {
			t.Error(i)
		}
		if r, e := script.All(settings, l); e != api.ErrArg || len(r.Results) != 0 || r.Ledger != nil || r.Digest != (api.Hash{}) {
			t.Error(i, e)
		}
	}
}

func TestBytes(t *testing.T) {
	l := []script.Item{{Tick: 300}, {Tx: []byte{15, 7}}, {}}
	b := script.Encode(settings, l)
	if !bytes.Equal(b, []byte{1, 2, 3, 5, 4, 2, 172, 2, 3, 172, 2, 0, 2, 15, 7, 0, 0}) {
		t.Errorf("Encode: %v", b)
	}
	c, m, e := script.Decode(b)
	if c != settings || !script.Same(l, m) || e != api.OK {
		t.Error("Decode", c, m, e)
	}
	clear(b)
	if !script.Same(l, m) {
		t.Error("bytes are kept")
	}
	head := []byte{1, 2, 3, 5, 4, 2, 0}
	for _, x := range []struct {
		b []byte
		e api.Errno
	}{
		{nil, api.ErrShort}, {head, api.ErrShort}, {append(head[:7:7], 0), api.OK}, {append(head[:7:7], 0, 0), api.ErrBad}, {append(head[:7:7], 144, 78), api.ErrShort}, {append(head[:7:7], 145, 78), api.ErrRange},
		{append(head[:7:7], 1), api.ErrShort}, {append(head[:7:7], 1, 192, 132, 61), api.OK}, {append(head[:7:7], 1, 193, 132, 61), api.ErrRange}, {append(head[:7:7], 1, 128, 0), api.ErrBad},
		{append(head[:7:7], 1, 0, 128, 32), api.ErrShort}, {append(head[:7:7], 1, 0, 129, 32), api.ErrRange}, {append(head[:7:7], 1, 0, 2, 1), api.ErrShort}, {append(head[:7:7], 2, 0, 0), api.ErrShort},
		{[]byte{0, 2, 3, 5, 4, 2, 0, 0}, api.ErrArg}, {[]byte{0, 2, 3, 5, 4, 2, 0, 0, 0}, api.ErrBad}, {[]byte{1, 2, 3, 0, 4, 2, 0, 0}, api.ErrArg}, {[]byte{1, 2, 3, 5, 0, 2, 0, 0}, api.ErrArg},
		{[]byte{128, 128, 128, 128, 16}, api.ErrRange}, {[]byte{1, 2, 3, 193, 132, 61}, api.ErrRange}, {[]byte{1, 2, 3, 5, 4, 2, 193, 132, 61}, api.ErrRange},
	} {
		c, l, e := script.Decode(x.b)
		if e != x.e || e != api.OK && (c != (api.Settings{}) || len(l) != 0) {
			t.Errorf("Decode(%v): %v %v %v", x.b, c, l, e)
		}
		r, f := script.Play(x.b)
		if f != x.e || f != api.OK && (r.Ledger != nil || len(r.Results) != 0 || r.Digest != (api.Hash{})) {
			t.Errorf("Play(%v): %v", x.b, f)
		}
	}
}

func TestThereAndBack(t *testing.T) {
	r := rand.New(rand.NewSource(1))
	for range 300 {
		var l []script.Item
		for range r.Intn(9) {
			if x := (script.Item{Tick: r.Intn(1_000_001) >> uint(r.Intn(20))}); x.Tick > 0 {
				l = append(l, x)
				continue
			}
			b := make([]byte, r.Intn(4097)>>uint(r.Intn(12)))
			r.Read(b)
			l = append(l, script.Item{Tx: b})
		}
		c := settings
		c.Owner, c.Active = 1+r.Intn(api.MaxAccount), r.Intn(1_000_001)
		b := script.Encode(c, l)
		d, m, e := script.Decode(b)
		if e != api.OK || c != d || !script.Same(l, m) || !bytes.Equal(script.Encode(d, m), b) {
			t.Fatal(e)
		}
	}
}

func TestAll(t *testing.T) {
	r, e := script.All(settings, nil)
	if e != api.OK || len(r.Results) != 0 || r.Digest != sha256.Sum256([]byte{0}) || r.Ledger.Store().Len() != 0 {
		t.Error("no items", e)
	}
	l := []script.Item{
		of(api.Tx{Kind: tx.Mint, From: 1, N: []int{1, 7}, A: []api.U{{100}}}), {Tick: 3}, of(api.Tx{Kind: tx.Mint, From: 7, N: []int{1, 7}, A: []api.U{{100}}}), {Tx: []byte{29}}, {},
		of(api.Tx{Kind: tx.Operator, From: 8, N: []int{3}}), {Tick: 999_999}, {Tick: 1},
	}
	r, e = script.All(settings, l)
	if e != api.OK {
		t.Fatal(e)
	}
	want := [][]byte{
		event.Result(api.OK, []api.Event{event.New(1, 1, 7, 100)}), event.Result(api.OK, nil), event.Result(api.ErrAuth, nil), event.Result(api.ErrRange, nil), event.Result(api.ErrShort, nil),
		event.Result(api.OK, []api.Event{event.New(8, 8), event.New(12, 8, 3, 5)}), event.Result(api.OK, nil), event.Result(api.OK, nil),
	}
	if !slices.EqualFunc(r.Results, want, bytes.Equal) {
		t.Error(r.Results)
	}
	if r.Ledger.Block() != 1_000_003 || r.Ledger.Settings() != settings || r.Digest != view.Digest(r.Ledger.Store()) {
		t.Error("the ledger", r.Ledger.Block())
	}
	again, e := script.Play(script.Encode(settings, l))
	if e != api.OK || again.Digest != r.Digest || !slices.EqualFunc(again.Results, want, bytes.Equal) {
		t.Error("Play", e)
	}
	_ = append(r.Results[0], 1, 2, 3)
	if !slices.EqualFunc(r.Results, want, bytes.Equal) {
		t.Error("results share memory")
	}
}

func TestSame(t *testing.T) {
	a := []script.Item{{Tick: 1}, {Tx: []byte{1}}}
	if !script.Same(nil, []script.Item{}) || !script.Same([]script.Item{{}}, []script.Item{{Tx: []byte{}}}) || !script.Same(a, slices.Clone(a)) {
		t.Error("alike")
	}
	for _, b := range [][]script.Item{nil, a[:1], {{Tick: 2}, {Tx: []byte{1}}}, {{Tick: 1}, {Tx: []byte{2}}}, {a[1], a[0]}, {{Tick: 1}, {}}} {
		if script.Same(a, b) || script.Same(b, a) {
			t.Error(b)
		}
	}
}
