package console_test

import (
	"fmt"
	"slices"
	"strings"
	"testing"

	"tallage/api"
	"tallage/console"
	"tallage/ledger"
	"tallage/sha"
	"tallage/tx"
	"tallage/view"
)

func TestExample(t *testing.T) {
	got, n, e := console.Play("do mint 1 1 7 ; 100\nask balance 1 7")
	if got != "1 ok [mint 1 7 100]\n2 100\n" || n != 0 || e != api.OK {
		t.Errorf("%q %d %v", got, n, e)
	}
}

const script = `# a comment

do mint 1 1 7 ; 1000
do strategy 1 1
  do   deposit 7 1 ;  100
do operator 8 0
#do service 9
do service 9
do set 9 1
do join 8 9 0
do delegate 7 8
tick 2
do allocate 8 9 0 1 ; 500000000000000000
do exit 7 1 ; 20
do slash 9 0 8 1 ; 500000000000000000
ask worth 7 1
ask exit 1
ask exit 2
ask balance 1
tick 0006
do complete 7 1 1
do mint 7 1 7 ; 1
do mint 1 1 7 ;
do mint 1 1 7
do undelegate 7 7
raw 0f0a
raw 0f0a00
raw ff
post 00000000000000000000000000000000000000000000000000000000000000aa
do disable 3 0
audit
ask block
tick 1000
do leave 8 9 0 8
do split 8 9 5`

const answers = `3 ok [mint 1 7 1000]
4 ok [strategy 1 1]
5 ok [deposit 7 1 100 100]
6 ok [operator 8] [delay 8 0 2]
8 ok [service 9]
9 ok [set 9 0]
10 ok [join 9 0 8]
11 ok [delegate 7 8]
12 ok 0
13 ok [allocate 8 1 9 0 0 500000000000000000]
14 ok [exit 1 7 1 20]
15 ok [slash 9 0 8 1 250000000000000000 1000000000000000000 750000000000000000] [burn 1 25 25]
16 60
17 15
18 none
19 argument
20 ok 0
21 ok [complete 1 7 15 15]
22 auth
23 argument
24 argument
25 ok [exit 2 7 1 60] [delegate 7 0]
26 ok [service 10]
27 bad
28 short
29 ok [post 0 11]
30 ok [disable 0]
31 fine
32 8
33 ok 0
34 ok [leave 9 0 8 1012]
35 ok [split 8 9 5 1010]
`

func TestPlay(t *testing.T) {
	got, n, e := console.Play(script)
	if got != answers || n != 0 || e != api.OK {
		t.Errorf("%s%d %v", got, n, e)
	}
	again, _, _ := console.Play(script)
	if again != got {
		t.Error("played again it tells something else")
	}
	// A text with one line more tells what it told, and then that line's.
	lines, told := strings.Split(script, "\n"), strings.SplitAfter(answers, "\n")
	for i := range lines {
		got, _, e := console.Play(strings.Join(lines[:i], "\n"))
		if e != api.OK || got != strings.Join(told[:strings.Count(got, "\n")], "") {
			t.Errorf("the first %d lines: %s", i, got)
		}
	}
	for _, end := range []string{"\n", "\n\n", "\n#", "\n   "} {
		if got, _, e := console.Play(script + end); got != answers || e != api.OK {
			t.Errorf("%q behind the end: %v", end, e)
		}
	}
	if got, n, e := console.Play(""); got != "" || n != 0 || e != api.OK {
		t.Error("no text", got, n, e)
	}
}

// TestDigest: the digest is that of a ledger to which the same was done.
func TestDigest(t *testing.T) {
	l, _ := ledger.New(api.Settings{Owner: 1, Pauser: 2, Updater: 3, Delay: 5, Tail: 4, Config: 2, Active: 3})
	l.Run(api.Tx{Kind: tx.Mint, From: 1, N: []int{1, 7}, A: []api.U{{100}}})
	l.Run(api.Tx{Kind: tx.Pause, From: 2, N: []int{1}})
	l.Run(api.Tx{Kind: tx.Post, From: 3, H: []api.Hash{{31: 5}}})
	l.Tick(3)
	want := "5 " + sha.Hex(view.Digest(l.Store())) + "\n"
	got, _, e := console.Play("do mint 1 1 7 ; 100\ndo pause 2 1\npost " + sha.Hex(api.Hash{31: 5}) + "\ntick 3\ndigest")
	if e != api.OK || !strings.HasSuffix(got, want) {
		t.Error(got, e)
	}
}

func TestCheck(t *testing.T) {
	long := strings.Repeat("9", 39)
	h := strings.Repeat("0a", 32)
	for _, line := range []string{
		"", "#", "# do", "#tick", "   ", "tick 1", "tick 1000", "tick 000000000001", "  tick   1  ", "do mint 1", "do mint 0", "do service 7", "do mint 999999999999 999999999999", "do mint 1 ;", "do mint 1 1 ; 1 2 3",
		"do split 000000000000", "do mint 1 1 7 ; 340282366920938463463374607431768211455", "do mint 1 ; 000000000000000000000000000000000000001", "do slash 9 1 2 3 4 5 6 7 8 9 10 11 12 13 ; 1 2", "post " + h, "raw 00", "raw ff00", "raw " + strings.Repeat("ab", 5000),
		"ask balance", "ask balance 1 2 3 4", "ask block", "ask max 999999999999", "digest", "audit", " audit ",
	} {
		if n, e := console.Check(line); n != 0 || e != api.OK {
			t.Errorf("%q: %d %v", line, n, e)
		}
	}
	for _, line := range []string{
		"x", "tick", "tick 0", "tick 1001", "tick 1 1", "tick -1", "tick a", "tick 1\t", "Tick 1", "tick 0000000000001", "tick 1;", "tick ;", " #", " # x", "\t", "\r", "tick 1\r", "tick\u00a01", "tick ١",
		"do", "do mint", "do mint ;", "do mint ; 1", "do claim 1", "do post 3", "do post 3 5", "do Mint 1", "do unknown 1", "do mints 1", "do mint 1 x", "do mint 1 0000000000001", "do mint 1 -1", "do mint 1 ; 1 ; 2", "do mint 1 ;; 1", "do mint 1 1;", "do mint 1 ; ;",
		"do mint 1 ; x", "do mint 1 ; " + long, "do mint 1 ; 340282366920938463463374607431768211456", "do mint 1 ; 0" + long, "do mint 1 ; " + strings.Repeat("0", 40), "do mint 1 ; -1", "do 1 1", "do mint 1 1 7 : 100",
		"post", "post " + h + " 1", "post " + h[2:], "post " + h + "00", "post " + h[1:], "post " + strings.ToUpper(h), "post " + "0g" + h[2:], "raw", "raw 0", "raw 000", "raw 0G", "raw AB", "raw 00 00", "raw 0é0", "raw é", "raw 00\x00",
		"ask", "ask x", "ask unknown", "ask Balance", "ask balance x", "ask balance 0000000000001", "ask balance 1 ; 2", "ask balance 1 -2", "digest 1", "audit x", "digest audit", "do\x00mint 1",
	} {
		if n, e := console.Check(line); n != 1 || e != api.ErrLine {
			t.Errorf("%q: %d %v", line, n, e)
		}
		text := "audit\n\n# x\n" + line + "\nx\n"
		if n, e := console.Check(text); n != 4 || e != api.ErrLine {
			t.Errorf("%q: %d %v", text, n, e)
		}
		if got, n, e := console.Play(text); got != "" || n != 4 || e != api.ErrLine {
			t.Errorf("Play of %q: %q %d %v", text, got, n, e)
		}
		for range console.Lines(text) {
			t.Errorf("Lines of %q tells something", text)
		}
	}
}

func TestLimits(t *testing.T) {
	many := strings.Repeat("ask block\n", 400)
	if n, e := console.Check(many); n != 0 || e != api.OK {
		t.Error("400 lines", n, e)
	}
	if n, e := console.Check("\n#\n" + many + "\n#x\naudit\nx"); n != 405 || e != api.ErrLine {
		t.Error("401 lines", n, e)
	}
	if n, e := console.Check(strings.Repeat("\n", 65536)); n != 0 || e != api.OK {
		t.Error("65536 bytes", n, e)
	}
	if got, n, e := console.Play(strings.Repeat("x", 65537)); got != "" || n != 0 || e != api.ErrLong {
		t.Error("65537 bytes", n, e)
	}
	for range console.Lines(strings.Repeat("\n", 65537)) {
		t.Error("Lines tells something")
	}
	for n := 1; n <= 20; n++ {
		if _, e := console.Check("ask " + view.Name(n)); e != api.OK {
			t.Error(view.Name(n), e)
		}
	}
	for n := 1; n <= 28; n++ {
		_, e := console.Check("do " + tx.Name(n) + " 1")
		if (e == api.OK) != (n != tx.Claim && n != tx.Post) {
			t.Error(tx.Name(n), e)
		}
	}
}

func TestLines(t *testing.T) {
	lines := console.Lines(script)
	collect := func(most int) string {
		var b strings.Builder
		for n, told := range lines {
			if most == 0 {
				break
			}
			most--
			fmt.Fprintf(&b, "%d %s\n", n, told)
		}
		return b.String()
	}
	want := strings.SplitAfter(answers, "\n")
	for most := range len(want) + 1 {
		if got := collect(most); got != strings.Join(want[:min(most, len(want))], "") {
			t.Errorf("the first %d: %s", most, got)
		}
	}
	var nested []string
	for n, told := range lines {
		for m, other := range lines {
			if m == n {
				nested = append(nested, fmt.Sprintf("%d %s\n", m, other))
				if other != told {
					t.Error(n, told, other)
				}
			}
		}
	}
	if !slices.Equal(nested, want[:len(nested)]) || len(nested) < 30 {
		t.Error("nested", len(nested))
	}
	for range console.Lines("") {
		t.Error("Lines of nothing")
	}
}
