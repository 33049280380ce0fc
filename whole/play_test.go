// Package whole_test plays ledgers at random, and holds them to what the whole
// promises.
package whole_test

import (
	"math/rand"

	"tallage/api"
	"tallage/exit"
	"tallage/holding"
	"tallage/leaf"
	"tallage/ledger"
	"tallage/roots"
	"tallage/tx"
	"tallage/u256"
	"tallage/wad"
)

const (
	strategies = 3
	accounts   = 12 // 1 is the owner, 2 the pauser, 3 the updater
)

var settings = api.Settings{Owner: 1, Pauser: 2, Updater: 3, Delay: 5, Tail: 4, Config: 2, Active: 3}

// player makes up transactions that may well go through.
type player struct {
	*rand.Rand
	l    *ledger.Ledger
	rows [][]leaf.Row // the tables of the roots that were posted
	mild bool         // slashes leave magnitudes well above 10^9
}

func (p *player) operator() int { return 4 + p.Intn(3) }

func (p *player) service() int { return 7 + p.Intn(2) }

func (p *player) strategy() int { return 1 + p.Intn(strategies) }

func (p *player) account() int { return 1 + p.Intn(accounts) }

// amount tells a number of up to so many bits.
func (p *player) amount(bits int) api.U {
	return u256.Of(1 + p.Uint64()>>uint(64-1-p.Intn(bits)))
}

// fraction tells a fraction above 0.
func (p *player) fraction() api.U {
	if p.mild {
		return u256.Of(1 + p.Uint64()%(wad.One()[0]/3))
	}
	if p.Intn(4) == 0 {
		return wad.One()
	}
	return u256.Of(1 + p.Uint64()%wad.One()[0]>>uint(p.Intn(60)))
}

// begin makes tokens, strategies, operators, services and sets.
func (p *player) begin() {
	for account := 1; account <= accounts; account++ {
		for token := 1; token <= 2; token++ {
			p.run(tx.Mint, 1, []int{token, account}, p.amount(60))
		}
	}
	for i := range strategies {
		p.run(tx.Strategy, 1, []int{1 + i%2})
	}
	for operator := 4; operator <= 6; operator++ {
		p.run(tx.Operator, operator, []int{p.Intn(3)})
	}
	for service := 7; service <= 8; service++ {
		p.run(tx.Service, service, nil)
		for set := range 2 {
			p.run(tx.Set, service, []int{1, 2, 3}[:1+p.Intn(3)])
			for operator := 4; operator <= 6; operator++ {
				p.run(tx.Join, operator, []int{service, set})
			}
		}
	}
	p.l.Tick(2)
}

func (p *player) run(kind, from int, n []int, a ...api.U) (api.Errno, []api.Event) {
	return p.l.Run(api.Tx{Kind: kind, From: from, N: n, A: a})
}

// next tells a transaction of one of the kinds that matter.
func (p *player) next() api.Tx {
	x := api.Tx{From: p.account()}
	switch p.Intn(20) {
	case 0, 1, 2:
		x.Kind, x.N, x.A = tx.Deposit, []int{p.strategy()}, []api.U{p.amount(40)}
	case 3:
		x.Kind, x.N, x.A = tx.Donate, []int{p.strategy()}, []api.U{p.amount(30)}
	case 4, 5:
		x.Kind, x.N = tx.Delegate, []int{p.operator()}
	case 6:
		x.Kind, x.N = tx.Undelegate, []int{x.From}
		if p.Intn(2) == 0 {
			x.From = p.operator()
		}
	case 7:
		x.Kind, x.N = tx.Redelegate, []int{p.operator()}
	case 8, 9:
		strategy := p.strategy()
		deposit := holding.Deposit(p.l.Store(), x.From, strategy)
		x.Kind, x.N, x.A = tx.Exit, []int{strategy}, []api.U{u256.Min(p.amount(40), deposit)}
	case 10, 11:
		x.Kind = tx.Complete
		if ids := exit.All(p.l.Store()); len(ids) > 0 {
			id := ids[p.Intn(len(ids))]
			w, _ := exit.Get(p.l.Store(), id)
			x.From, x.N = w.Staker, []int{id, p.Intn(2)}
		}
	case 12, 13, 14:
		x.Kind, x.From, x.N = tx.Allocate, p.operator(), []int{p.service(), p.Intn(2), p.strategy()}
		x.A = []api.U{u256.Of(p.Uint64() % (wad.One()[0]/2 + 1) >> uint(p.Intn(10)))}
	case 15, 16:
		x.Kind, x.From, x.N = tx.Slash, p.service(), []int{p.Intn(2), p.operator(), p.strategy()}
		x.A = []api.U{p.fraction()}
	default:
		return p.other(x)
	}
	return x
}

// other tells a transaction of the kinds that come less often.
func (p *player) other(x api.Tx) api.Tx {
	switch p.Intn(9) {
	case 0:
		x.Kind, x.From, x.N = tx.Join, p.operator(), []int{p.service(), p.Intn(2)}
	case 1:
		x.Kind, x.From = tx.Leave, p.operator()
		x.N = []int{p.service(), p.Intn(2), x.From}
	case 2:
		x.Kind, x.From, x.N = tx.Include, p.service(), []int{p.Intn(2), p.strategy()}
		if p.Intn(2) == 0 {
			x.Kind = tx.Exclude
		}
	case 3:
		x.Kind, x.From, x.N = tx.Delay, p.operator(), []int{p.Intn(4)}
	case 4:
		x.Kind, x.From, x.N, x.A = tx.Submit, p.service(), []int{1 + p.Intn(2)}, []api.U{p.amount(40)}
	case 5:
		var rows []leaf.Row
		for at := range 6 {
			rows = append(rows, leaf.Row{Earner: 9 + at/2, Token: 1 + at%2, Amount: p.amount(36)})
		}
		root, _ := leaf.Root(rows)
		p.rows = append(p.rows, rows)
		x.Kind, x.From, x.H = tx.Post, 3, []api.Hash{root}
	case 6:
		x.Kind, x.From, x.N = tx.Disable, 3, []int{p.Intn(1 + min(api.MaxRoots, roots.Count(p.l.Store())))}
	case 7:
		x.Kind, x.N, x.A = tx.Transfer, []int{1 + p.Intn(2), p.account()}, []api.U{p.amount(50)}
	case 8:
		if len(p.rows) > 0 {
			root := p.Intn(len(p.rows))
			row := p.rows[root][p.Intn(6)]
			x.Kind, x.From = tx.Claim, row.Earner
			x.Claim, _ = leaf.Claim(p.rows[root], row.Earner, []int{row.Token})
			x.Claim.Root = root
		}
	}
	return x
}
