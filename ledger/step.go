package ledger

import (
	"tallage/alloc"
	"tallage/api"
	"tallage/bank"
	"tallage/claim"
	"tallage/delay"
	"tallage/deleg"
	"tallage/event"
	"tallage/exit"
	"tallage/magn"
	"tallage/member"
	"tallage/pause"
	"tallage/pool"
	"tallage/roots"
	"tallage/roster"
	"tallage/service"
	"tallage/slash"
	"tallage/split"
	"tallage/store"
	"tallage/tx"
	"tallage/u256"
	"tallage/vault"
)

// The kinds of events.
const (
	mintEvent = iota + 1
	pauseEvent
	strategyEvent
	allowEvent
	transferEvent
	depositEvent
	donateEvent
	operatorEvent
	delegateEvent
	exitEvent
	completeEvent
	delayEvent
	serviceEvent
	setEvent
	joinEvent
	leaveEvent
	allocateEvent
	matureEvent
	slashEvent
	burnEvent
	submitEvent
	postEvent
	disableEvent
	claimerEvent
	claimEvent
	splitEvent
)

// step is a transaction on its way: from whom, and at which block.
type step struct {
	*store.Store
	c     api.Settings
	t     api.Tx
	f     int
	block int
}

// told tells the events, where there is no error.
func told(e api.Errno, l ...api.Event) (api.Errno, []api.Event) {
	if e != api.OK {
		return e, nil
	}
	return api.OK, l
}

// run does what the kind asks for.
func (x step) run() (api.Errno, []api.Event) {
	switch x.t.Kind {
	case tx.Mint, tx.Pause, tx.Strategy, tx.Allow, tx.Transfer, tx.Deposit, tx.Donate:
		return x.tokens()
	case tx.Operator, tx.Delegate, tx.Undelegate, tx.Redelegate, tx.Exit, tx.Complete, tx.Delay:
		return x.stakes()
	case tx.Service, tx.Set, tx.Include, tx.Exclude, tx.Join, tx.Leave, tx.Allocate, tx.Slash:
		return x.sets()
	}
	return x.rewards()
}

// tokens does what has to do with tokens and strategies.
func (x step) tokens() (api.Errno, []api.Event) {
	n := x.t.N
	switch x.t.Kind {
	case tx.Mint:
		e := bank.Mint(x.Store, n[0], n[1], x.t.A[0])
		return told(e, event.With(event.New(mintEvent, n...), x.t.A[0]))
	case tx.Pause:
		return told(pause.Set(x.Store, n[0]), event.New(pauseEvent, n[0]))
	case tx.Strategy:
		id, e := vault.New(x.Store, n[0])
		return told(e, event.New(strategyEvent, id, n[0]))
	case tx.Allow:
		if n[1] > 1 {
			return api.ErrRange, nil
		}
		return told(vault.Allow(x.Store, n[0], n[1] == 1), event.New(allowEvent, n...))
	case tx.Transfer:
		e := bank.Pay(x.Store, n[0], x.f, n[1], x.t.A[0])
		return told(e, event.With(event.New(transferEvent, n[0], x.f, n[1]), x.t.A[0]))
	case tx.Deposit:
		shares, e := deleg.Deposit(x.Store, x.f, n[0], x.t.A[0])
		return told(e, event.With(event.New(depositEvent, x.f, n[0]), x.t.A[0], shares))
	}
	e := vault.Donate(x.Store, n[0], x.f, x.t.A[0])
	return told(e, event.With(event.New(donateEvent, x.f, n[0]), x.t.A[0]))
}

// stakes does what stakers and operators do.
func (x step) stakes() (api.Errno, []api.Event) {
	n := x.t.N
	switch x.t.Kind {
	case tx.Operator:
		if e := deleg.Operator(x.Store, x.f); e != api.OK {
			return e, nil
		}
		e, later := x.setDelay()
		return told(e, append([]api.Event{event.New(operatorEvent, x.f)}, later...)...)
	case tx.Delegate:
		return told(deleg.Delegate(x.Store, x.f, n[0]), event.New(delegateEvent, x.f, n[0]))
	case tx.Undelegate:
		if x.f != n[0] && x.f != roster.Of(x.Store, n[0]) {
			return api.ErrAuth, nil
		}
		ids, e := deleg.Undelegate(x.Store, n[0], x.block)
		return told(e, append(x.exits(ids), event.New(delegateEvent, n[0], 0))...)
	case tx.Redelegate:
		ids, e := deleg.Redelegate(x.Store, x.f, n[0], x.block)
		return told(e, append(x.exits(ids), event.New(delegateEvent, x.f, n[0]))...)
	case tx.Exit:
		id, e := deleg.Exit(x.Store, x.f, n[0], x.t.A[0], x.block)
		return told(e, x.exits([]int{id})...)
	case tx.Complete:
		return x.complete(n[0], n[1])
	}
	if !roster.Is(x.Store, x.f) {
		return api.ErrNone, nil
	}
	return x.setDelay()
}

// setDelay lets an operator's allocation delay change.
func (x step) setDelay() (api.Errno, []api.Event) {
	e := delay.Set(x.Store, delays, []int{x.f}, x.t.N[0], x.block, x.c.Config)
	return told(e, event.New(delayEvent, x.f, x.t.N[0], x.block+x.c.Config))
}

// exits tells the events of withdrawals that came.
func (x step) exits(ids []int) []api.Event {
	var l []api.Event
	for _, id := range ids {
		w, _ := exit.Get(x.Store, id)
		l = append(l, event.With(event.New(exitEvent, id, w.Staker, w.Strategy), w.Worth))
	}
	return l
}

func (x step) complete(id, tokens int) (api.Errno, []api.Event) {
	w, ok := exit.Get(x.Store, id)
	switch {
	case tokens > 1:
		return api.ErrRange, nil
	case !ok:
		return api.ErrNone, nil
	case w.Staker != x.f:
		return api.ErrAuth, nil
	}
	pays, paid, e := deleg.Complete(x.Store, id, x.block, x.c.Delay, tokens == 1)
	return told(e, event.With(event.New(completeEvent, id, x.f), pays, paid))
}

// sets does what has to do with services and their sets.
func (x step) sets() (api.Errno, []api.Event) {
	n := x.t.N
	switch x.t.Kind {
	case tx.Service:
		return told(service.Register(x.Store, x.f), event.New(serviceEvent, x.f))
	case tx.Set:
		set, e := service.New(x.Store, x.f, n)
		return told(e, event.New(setEvent, x.f, set))
	case tx.Include:
		return told(service.Include(x.Store, x.f, n[0], n[1]), event.New(setEvent, x.f, n[0], n[1]))
	case tx.Exclude:
		return told(service.Exclude(x.Store, x.f, n[0], n[1]), event.New(setEvent, x.f, n[0], n[1]))
	case tx.Join:
		return told(member.Join(x.Store, n[0], n[1], x.f, x.block), event.New(joinEvent, n[0], n[1], x.f))
	case tx.Leave:
		if x.f != n[0] && x.f != n[2] {
			return api.ErrAuth, nil
		}
		e := member.Leave(x.Store, n[0], n[1], n[2], x.block, x.c.Tail)
		return told(e, event.New(leaveEvent, n[0], n[1], n[2], x.block+x.c.Tail))
	case tx.Allocate:
		return x.allocate(n[0], n[1], n[2], x.t.A[0])
	}
	cuts, e := slash.Slash(x.Store, x.f, n[0], n[1], n[2:], x.t.A, x.block, x.c.Delay)
	return told(e, x.slashes(cuts)...)
}

func (x step) allocate(account, set, strategy int, to api.U) (api.Errno, []api.Event) {
	if !roster.Is(x.Store, x.f) || !service.There(x.Store, account, set) {
		return api.ErrNone, nil
	}
	wait, ok := delay.Of(delay.Get(x.Store, delays, []int{x.f}), x.block)
	if !ok {
		return api.ErrState, nil
	}
	id := alloc.Id{Operator: x.f, Strategy: strategy, Service: account, Set: set}
	has := service.Has(x.Store, account, set, strategy)
	if !has && u256.Cmp(to, alloc.Current(x.Store, id)) > 0 {
		return api.ErrNone, nil
	}
	block, e := alloc.Modify(x.Store, id, alloc.Change{
		To:        to,
		Max:       magn.Max(x.Store, x.f, strategy),
		Block:     x.block,
		Delay:     wait,
		Tail:      x.c.Tail,
		Slashable: has && member.Slashable(x.Store, account, set, x.f, x.block),
	})
	return told(e, event.With(event.New(allocateEvent, x.f, strategy, account, set, block), to))
}

// slashes tells the events of what a slash took.
func (x step) slashes(cuts []slash.Cut) []api.Event {
	var l []api.Event
	for _, c := range cuts {
		e := event.New(slashEvent, x.f, x.t.N[0], x.t.N[1], c.Strategy)
		l = append(l, event.With(e, c.Part, c.From, c.To))
		if c.Shares != (api.U{}) {
			l = append(l, event.With(event.New(burnEvent, c.Strategy), c.Shares, c.Tokens))
		}
	}
	return l
}

// rewards does what has to do with rewards.
func (x step) rewards() (api.Errno, []api.Event) {
	n := x.t.N
	switch x.t.Kind {
	case tx.Submit:
		e := pool.Submit(x.Store, x.f, n[0], x.t.A[0])
		return told(e, event.With(event.New(submitEvent, x.f, n[0]), x.t.A[0]))
	case tx.Post:
		id, e := roots.Post(x.Store, x.t.H[0], x.block, x.c.Active)
		return told(e, event.New(postEvent, id, x.block+x.c.Active))
	case tx.Disable:
		return told(roots.Disable(x.Store, n[0], x.block), event.New(disableEvent, n[0]))
	case tx.Claimer:
		return told(claim.SetClaimer(x.Store, x.f, n[0]), event.New(claimerEvent, x.f, n[0]))
	case tx.Claim:
		paid, e := claim.Claim(x.Store, x.f, x.t.Claim, x.block)
		return told(e, x.claims(paid)...)
	}
	e := split.Set(x.Store, x.f, n[0], n[1], x.block, x.c.Config)
	return told(e, event.New(splitEvent, x.f, n[0], n[1], x.block+x.c.Config))
}

// claims tells the events of what a claim was paid, leaf by leaf.
func (x step) claims(paid []api.U) []api.Event {
	var l []api.Event
	for i, a := range paid {
		c := x.t.Claim
		l = append(l, event.With(event.New(claimEvent, c.Earner, c.Leaves[i].Token, c.To), a))
	}
	return l
}
