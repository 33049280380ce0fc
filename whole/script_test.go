package whole_test

import (
	"bytes"
	"slices"
	"testing"

	"tallage/api"
	"tallage/event"
	"tallage/pause"
	"tallage/script"
	"tallage/tx"
	"tallage/view"
)

// items tells a script of what a player does, and of bytes that are hardly any
// transaction.
func items(p *player) []script.Item {
	var l []script.Item
	for _, x := range []api.Tx{
		{Kind: tx.Strategy, From: 1, N: []int{1}}, {Kind: tx.Strategy, From: 1, N: []int{2}}, {Kind: tx.Operator, From: 4, N: []int{0}}, {Kind: tx.Operator, From: 5, N: []int{1}},
		{Kind: tx.Service, From: 7}, {Kind: tx.Set, From: 7, N: []int{1, 2}}, {Kind: tx.Join, From: 4, N: []int{7, 0}},
	} {
		l = append(l, script.Item{Tx: tx.Bytes(x)})
	}
	for account := 1; account <= accounts; account++ {
		x := api.Tx{Kind: tx.Mint, From: 1, N: []int{1 + account%2, account}, A: []api.U{p.amount(50)}}
		l = append(l, script.Item{Tx: tx.Bytes(x)})
	}
	for range 120 {
		x := p.next()
		b := tx.Bytes(x)
		switch p.Intn(12) {
		case 0, 1, 2:
			l = append(l, script.Item{Tick: 1 + p.Intn(4)})
		case 3:
			if len(b) > 0 {
				b[p.Intn(len(b))] ^= byte(1 << p.Intn(8))
			}
		case 4:
			b = tx.Bytes(api.Tx{Kind: tx.Pause, From: 2, N: []int{p.Intn(256) & p.Intn(256)}})
		}
		l = append(l, script.Item{Tx: b})
	}
	return l
}

// TestScript: each item has a result; what is wrong is told in order, and leaves
// the digest as it is; played again a script tells the same.
func TestScript(t *testing.T) {
	errors := map[api.Errno]int{}
	for seed := range int64(12) {
		l := items(newPlayer(t, 3000+seed, false))
		b := script.Encode(settings, l)
		r, e := script.Play(b)
		again, f := script.Play(b)
		if e != api.OK || f != api.OK || r.Digest != again.Digest || len(r.Results) != len(l) || !slices.EqualFunc(r.Results, again.Results, bytes.Equal) {
			t.Fatal(e, f)
		}
		p := newPlayer(t, 0, false).l
		digest := view.Digest(p.Store())
		for i, x := range l {
			code, events, e := event.ToResult(r.Results[i])
			if e != api.OK {
				t.Fatal("no result", e)
			}
			if x.Tick > 0 {
				p.Tick(x.Tick)
			} else {
				checkOrder(t, p.Settings(), pause.Flags(p.Store()), x.Tx, code)
				p.Do(x.Tx)
			}
			now := view.Digest(p.Store())
			if code != api.OK && (now != digest || len(events) > 0) {
				t.Fatal("something changed with", code)
			}
			digest = now
			errors[code]++
		}
		if digest != r.Digest {
			t.Fatal("the digest")
		}
	}
	for _, e := range []api.Errno{api.OK, api.ErrShort, api.ErrAuth, api.ErrPaused, api.ErrNone} {
		if errors[e] < 10 {
			t.Errorf("%v was told %d times", e, errors[e])
		}
	}
}

// checkOrder: bytes that are none, who may not, and what is paused are told as
// such, in this order.
func checkOrder(t *testing.T, c api.Settings, flags int, b []byte, code api.Errno) {
	t.Helper()
	x, e := tx.Parse(b)
	switch {
	case e != api.OK:
		if code != e {
			t.Fatal(code, e)
		}
	case !pause.May(c, x.Kind, x.From):
		if code != api.ErrAuth {
			t.Fatal(code, "of who may not")
		}
	case pause.Bit(x.Kind)&flags != 0:
		if code != api.ErrPaused {
			t.Fatal(code, "of what is paused")
		}
	case code == api.ErrPaused:
		t.Fatal("what is not paused is")
	}
}
