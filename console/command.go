package console

import (
	"strconv"
	"strings"

	"tallage/api"
	"tallage/audit"
	"tallage/event"
	"tallage/ledger"
	"tallage/sha"
	"tallage/tx"
	"tallage/u256"
	"tallage/view"
	"tallage/wad"
)

const (
	updater      = 3 // who posts roots
	numberDigits = 12
	amountDigits = 39
	mostTicks    = 1000
)

// command is what a line asks for.
type command struct {
	n int
	b []byte
	t api.Tx
	q view.Query
}

// read tells what a line's words ask a ledger to do, and tell.
func read(words []string) (func(*ledger.Ledger) string, bool) {
	var c command
	var ok bool
	rest := words[1:]
	switch words[0] {
	case "tick":
		c.n, ok = only(rest, number)
		return c.tick, ok && c.n >= 1 && c.n <= mostTicks
	case "do":
		c.t, ok = transaction(rest)
		return c.do, ok
	case "post":
		var h api.Hash
		h, ok = only(rest, sha.Parse)
		c.t = api.Tx{Kind: tx.Post, From: updater, H: []api.Hash{h}}
		return c.do, ok
	case "raw":
		c.b, ok = only(rest, hex)
		return c.raw, ok
	case "ask":
		c.q, ok = query(rest)
		return c.ask, ok
	case "digest":
		return c.digest, len(rest) == 0
	case "audit":
		return c.audit, len(rest) == 0
	}
	return nil, false
}

func (c command) tick(l *ledger.Ledger) string {
	e, events := l.Tick(c.n)
	return api.Text(e) + " " + strconv.Itoa(len(events))
}

func (c command) do(l *ledger.Ledger) string { return result(l.Run(c.t)) }

func (c command) raw(l *ledger.Ledger) string { return result(l.Do(c.b)) }

func (c command) ask(l *ledger.Ledger) string {
	a, e := view.Ask(l, c.q)
	if e != api.OK {
		return api.Text(e)
	}
	return u256.Text(a[0])
}

func (c command) digest(l *ledger.Ledger) string { return sha.Hex(view.Digest(l.Store())) }

func (c command) audit(l *ledger.Ledger) string { return audit.Name(audit.Check(l)) }

// result tells an error's text, and the events' texts in brackets.
func result(e api.Errno, events []api.Event) string {
	var b strings.Builder
	b.WriteString(api.Text(e))
	for _, x := range events {
		b.WriteString(" [" + event.Text(x) + "]")
	}
	return b.String()
}

// only tells what parse makes of the one word that there is.
func only[T any](words []string, parse func(string) (T, bool)) (T, bool) {
	if len(words) != 1 {
		var none T
		return none, false
	}
	return parse(words[0])
}

// all tells what parse makes of each word.
func all[T any](words []string, parse func(string) (T, bool)) ([]T, bool) {
	var l []T
	for _, word := range words {
		x, ok := parse(word)
		if !ok {
			return nil, false
		}
		l = append(l, x)
	}
	return l, true
}

// transaction tells the transaction of a kind's name, who sends it, numbers,
// and behind a semicolon amounts.
func transaction(words []string) (api.Tx, bool) {
	if len(words) < 2 {
		return api.Tx{}, false
	}
	kind, named := kindOf(words[0])
	from, ok := number(words[1])
	if !named || !ok {
		return api.Tx{}, false
	}
	numbers, amounts := words[2:], []string(nil)
	for i, word := range numbers {
		if word == ";" {
			numbers, amounts = numbers[:i], numbers[i+1:]
			break
		}
	}
	n, good := all(numbers, number)
	a, fine := all(amounts, amount)
	return api.Tx{Kind: kind, From: from, N: n, A: a}, good && fine
}

// kindOf tells the kind of a name, of those whose lines begin with do.
func kindOf(name string) (int, bool) {
	for kind := tx.Mint; kind <= tx.Split; kind++ {
		if tx.Name(kind) == name {
			return kind, kind != tx.Claim && kind != tx.Post
		}
	}
	return 0, false
}

// query tells the question of a name, and numbers.
func query(words []string) (view.Query, bool) {
	if len(words) == 0 {
		return view.Query{}, false
	}
	n, ok := all(words[1:], number)
	for kind := 1; ok; kind++ {
		if _, there := view.Count(kind); !there {
			break
		}
		if view.Name(kind) == words[0] {
			return view.Query{Kind: kind, N: n}, true
		}
	}
	return view.Query{}, false
}

// decimal tells the number of a word of one to most digits.
func decimal(word string, most int) (api.U, bool) {
	if word == "" || len(word) > most {
		return api.U{}, false
	}
	var a api.U
	for _, r := range word {
		switch {
		case r >= '0' && r <= '9':
			a, _ = u256.Mul(a, u256.Of(10))
			a, _ = u256.Add(a, u256.Of(uint64(r-'0')))
		default:
			return api.U{}, false
		}
	}
	return a, true
}

func number(word string) (int, bool) {
	a, ok := decimal(word, numberDigits)
	n, fits := u256.Int(a)
	return n, ok && fits
}

func amount(word string) (api.U, bool) {
	a, ok := decimal(word, amountDigits)
	return a, ok && wad.Amount(a)
}

// hex tells the bytes of a word of so many pairs of digits of sixteen.
func hex(word string) ([]byte, bool) {
	if len(word)%2 != 0 {
		return nil, false
	}
	b := make([]byte, len(word)/2)
	for i, r := range word {
		switch {
		case r >= '0' && r <= '9', r >= 'a' && r <= 'f':
			b[i/2] = b[i/2]<<4 | byte(sha.Digit(byte(r)))
		default:
			return nil, false
		}
	}
	return b, true
}
