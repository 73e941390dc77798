package node

import (
	"purlin/api"
	"purlin/credit"
	"purlin/refs"
	"purlin/term"
)

// event is one that is being done, on a copy of the machine that is given up, if there is an error. Queue, map and askings of that copy are still the node's own: to copy them each time would cost as much as the node is great. So what is done to them waits, as deeds, until it is known that no error comes, or they are copied, too.
type event struct {
	machine
	before  holdings // as they were ahead of the event
	send    func(to int, m api.Message)
	goal    api.Goal // of a step: the one that leaves the queue
	commits []api.Commit
	deeds   []func()
}

// do does an event of any kind; beside an error the machine is not to be used any more.
func (v *event) do(e api.Event) api.Errno {
	errno := api.ErrForm
	switch e.Kind {
	case api.Step:
		errno = v.step()
	case api.Receive:
		errno = v.receive(e.From, e.Bytes)
	case api.Submit:
		errno = v.submit(e.Term)
	case api.Collect:
		v.collect()
		return api.OK
	}
	if errno != api.OK {
		return errno
	}
	if v.mayErr() {
		v.machine = v.fork()
	}
	for _, deed := range v.deeds {
		deed()
	}
	return v.end()
}

func (v *event) later(deed func()) { v.deeds = append(v.deeds, deed) }

// mayErr tells whether the end of the event can have an error. The credit does not rise from here on, and the holdings are what they will be.
func (v *event) mayErr() bool {
	_, e := credit.Sum(v.collected, v.credit)
	return e != api.OK || !v.fits()
}

func (v *event) fits() bool { return v.holdings == v.before || v.Fits(v.before.Table) }

// end lets credit go back that no goal here needs.
func (v *event) end() api.Errno {
	if v.rests() && !credit.IsZero(v.credit) {
		if e := v.giveBack(); e != api.OK {
			return e
		}
	}
	if !v.fits() {
		return api.ErrExports
	}
	return api.OK
}

func (v *event) giveBack() api.Errno {
	all := v.credit
	v.credit = api.Amount{}
	if v.own == first {
		return v.gather(all)
	}
	r := v.report()
	v.send(first, api.Message{Tag: api.Return, Count: r.waiting, Flags: r.flags, Credit: all})
	return api.OK
}

// gather is for credit that came back to the first node, gain for credit that the node has from here on.
func (v *event) gather(a api.Amount) (e api.Errno) {
	v.collected, e = credit.Sum(v.collected, a)
	return e
}

func (v *event) gain(a api.Amount) (e api.Errno) {
	v.credit, e = credit.Sum(v.credit, a)
	return e
}

// pay sends a message with a part of the credit, or without, if there is none that can be parted.
func (v *event) pay(to int, m api.Message) {
	if keep, give, e := credit.Split(v.credit); e == api.OK {
		v.credit, m.Credit = keep, give
	}
	v.send(to, m)
}

// counts are the holdings, to be changed: the node's own stay as they are.
func (v *event) counts() *refs.Table {
	if v.holdings == v.before {
		v.holdings.Table = v.before.Fork()
	}
	return v.holdings.Table
}

// carry counts the variables of terms that go to a node, or tells their owners.
func (v *event) carry(to int, l ...api.Term) {
	for _, x := range term.Vars(l...) {
		switch x.Node {
		case v.own:
			v.counts().Sent(to, x)
		case to:
		default:
			v.send(x.Node, api.Message{Tag: api.Add, Var: x, Count: to})
		}
	}
}

func (v *event) ship(to int, g api.Goal) {
	v.carry(to, g.Term)
	v.pay(to, api.Message{Tag: api.Ship, Goal: g.Name, Term: g.Term})
}

func (v *event) tell(to int, x api.Name, value api.Term) {
	v.carry(to, value)
	v.pay(to, api.Message{Tag: api.Value, Var: x, Term: value})
}

func (v *event) put(l ...api.Goal) { v.later(func() { v.Put(l...) }) }

// bind gives a variable its value. Nobody waits here for another node's variable: so those that do are told whosever it is.
func (v *event) bind(x api.Name, value api.Term) {
	for _, to := range v.Waiters(x) {
		v.tell(to, x, value)
	}
	v.later(func() {
		v.Bind(x, value)
		v.Tell(x)
		v.Wake(x)
	})
}

// wait lets the goal wait, and asks for values that were not asked for yet.
func (v *event) wait(vars ...api.Name) {
	v.later(func() {
		v.Wait(v.goal, vars...)
		for _, x := range vars {
			if x.Node != v.own && v.Want(x) {
				v.pay(x.Node, api.Message{Tag: api.Read, Var: x})
			}
		}
	})
}
