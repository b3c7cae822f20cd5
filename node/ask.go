package node

import (
	"redoubt/api"
	"redoubt/carve"
	"redoubt/deed"
	"redoubt/sheet"
)

// Ask takes a client's request.
func (n *Node) Ask(number int, a api.Ask) ([]api.Reply, []api.Letter) {
	return n.call(func(t *turn) {
		at, e, answered := n.ask(t, number, a)
		if answered {
			t.replies = append(t.replies, api.Reply{Ask: number, Err: e, At: at})
		}
	})
}

// ask answers a request at once, or lets it wait for its entry.
func (n *Node) ask(t *turn, number int, a api.Ask) (at api.Spot, e api.Errno, answered bool) {
	if e := mayAsk(a); e != api.OK {
		return api.Spot{}, e, true
	}
	if !n.Leads() {
		return api.Spot{}, api.ErrFollower, true
	}
	if a.Kind == api.AskReign {
		at, e := n.askReign()
		return at, e, true
	}
	changes := a.Kind == api.AskPut || a.Kind == api.AskDrop
	if changes {
		if e := n.Primary(n.ledger); e != api.OK {
			return api.Spot{}, e, true
		}
	}
	if n.Len() >= api.MaxPending {
		return api.Spot{}, api.ErrQueue, true
	}
	c := api.Command{Kind: api.CmdLook}
	if changes {
		if c, e = n.command(a); e != api.OK {
			return api.Spot{}, e, true
		}
	}
	index, e := n.propose(t, c)
	if e != api.OK {
		return api.Spot{}, e, true
	}
	entry, _ := n.part.Entry(index)
	n.Add(number, a, index, entry.Term)
	return api.Spot{}, api.OK, false
}

// mayAsk answers why nobody could ask that.
func mayAsk(a api.Ask) api.Errno {
	if !within(a.Kind, api.AskPut, api.AskLost) || !within(a.Client, 0, api.MaxClients-1) {
		return api.ErrArg
	}
	named := within(len(a.Name), 1, api.MaxName)
	switch a.Kind {
	case api.AskPut, api.AskDrop:
		if !named || !within(a.Seq, 1, api.MaxSeq) || !within(a.Mode, api.ModeAsync, api.ModeSync) || !within(a.Lag, 0, api.MaxOps) {
			return api.ErrArg
		}
	case api.AskRestore:
		if !named {
			return api.ErrArg
		}
	}
	if a.Kind == api.AskPut && len(a.Data) > api.MaxBackup {
		return api.ErrLong
	}
	return api.OK
}

// askReign answers where its epoch began, if it is the primary site's; else it wants to be that.
func (n *Node) askReign() (api.Spot, api.Errno) {
	if n.Primary(n.ledger) != api.OK {
		if e := n.Want(n.ledger.Fence()); e != api.OK {
			return api.Spot{}, e
		}
		return n.ledger.Last(), api.OK
	}
	at := api.Spot{}
	for _, o := range n.ledger.Ops() {
		if o.Kind == api.OpReign {
			at = api.Spot{N: o.N, Epoch: o.Epoch}
		}
	}
	return at, api.OK
}

// command answers what is to be agreed on for a put or a drop. The chunks of a put are there first.
func (n *Node) command(a api.Ask) (api.Command, api.Errno) {
	o := api.Op{Kind: api.OpDrop, Client: a.Client, Seq: a.Seq, Name: a.Name}
	if a.Kind == api.AskPut {
		s, e := sheet.Make(a.Data)
		if e != api.OK {
			return api.Command{}, e
		}
		if e := n.store(s, carve.Cut(a.Data)...); e != api.OK {
			return api.Command{}, e
		}
		o.Kind, o.Sheet = api.OpPut, s
	}
	return api.Command{Kind: api.CmdDo, Epoch: n.ledger.Fence(), Site: n.site, Op: o}, api.OK
}

// store puts the chunks of a sheet in the vault. They are held meanwhile: a sweep for one must not take another.
func (n *Node) store(s api.Sheet, chunks ...string) api.Errno {
	n.vault.Hold(s.Hashes...)
	e := api.OK
	for _, chunk := range chunks {
		if e = n.put(chunk); e != api.OK {
			break
		}
	}
	n.vault.Free(s.Hashes...)
	return e
}

// put puts a chunk in the vault, behind a sweep where there is no room.
func (n *Node) put(chunk string) api.Errno {
	_, e := n.vault.Put(chunk)
	if e == api.ErrQuota {
		n.vault.Sweep()
		_, e = n.vault.Put(chunk)
	}
	return e
}

// propose lets the site agree on a command, and answers its entry's number.
func (n *Node) propose(t *turn, c api.Command) (int, api.Errno) {
	index, sends, e := n.part.Propose(deed.Pack(c))
	n.say(t, sends...)
	return index, e
}
