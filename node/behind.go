package node

import (
	"slices"

	"redoubt/api"
	"redoubt/deed"
	"redoubt/lane"
	"redoubt/ledger"
)

// turn is what comes of one call.
type turn struct {
	term         int // in which it led when the call began, 0 if it didn't
	mine, others []api.Letter
	replies      []api.Reply
}

// say lets mails of its part go out.
func (n *Node) say(t *turn, sends ...api.Send) {
	for _, s := range sends {
		t.mine = append(t.mine, n.letters(n.site*api.PerSite+s.To, s.Mail)...)
	}
}

// leadTerm answers the term in which it leads, 0 if it doesn't.
func (n *Node) leadTerm() int {
	if !n.Leads() {
		return 0
	}
	return n.part.Kept().Term
}

// allDone answers whether its ledger has done all its entries.
func (n *Node) allDone() bool {
	return n.done == n.part.Last()
}

// call does something, and what stands behind each call. If the power goes meanwhile, nothing is said.
func (n *Node) call(do func(t *turn)) ([]api.Reply, []api.Letter) {
	if !n.works() {
		return nil, nil
	}
	t := &turn{term: n.leadTerm()}
	do(t)
	n.behind(t)
	if n.drive.Down() {
		n.gone = true
		return nil, nil
	}
	return t.replies, append(t.mine, t.others...)
}

// behind does what stands behind each call.
func (n *Node) behind(t *turn) {
	n.last()
	if t.term > 0 && n.leadTerm() != t.term {
		n.stepDown(t)
	}
	n.apply(t)
	n.compact()
	n.hold()
	n.report()
	n.reignOn(t)
	if n.Leads() {
		t.replies = append(t.replies, n.settle()...)
	}
	t.replies = append(t.replies, n.Fetch(n.vault, n.ledger)...)
	n.last()
}

// last makes last what must. Another base than that on the drive is that of another node's snapshot.
func (n *Node) last() {
	save, touched := n.part.Save()
	kept := n.part.Kept()
	if kept.Base == n.base {
		if touched {
			n.keep.Save(save)
		}
		return
	}
	n.keep.Lay(kept)
	n.base, n.done = kept.Base, kept.Base
	if l, e := ledger.Load(n.conf.Quota, n.conf.Ops, kept.Snap); e == api.OK {
		n.ledger = l
	}
}

// stepDown forgets what only a leader knows.
func (n *Node) stepDown(t *turn) {
	t.replies = append(t.replies, n.Drop()...)
	n.Rest()
	n.lane = nil
	for i := range n.reports {
		if i != n.own() {
			n.reports[i] = api.Reach{}
		}
	}
}

// commandOf answers the command of an entry.
func commandOf(e api.Entry) (api.Command, api.Errno) {
	if e.Data == "" {
		return api.Command{Kind: api.CmdIdle}, api.OK
	}
	return deed.Parse(e.Data)
}

// apply lets the ledger do the entries that are agreed on.
func (n *Node) apply(t *turn) {
	for n.done < n.part.Commit() {
		n.done++
		entry, _ := n.part.Entry(n.done)
		done := api.Done{Err: api.ErrForm}
		if c, e := commandOf(entry); e == api.OK {
			done = n.ledger.Apply(c)
		}
		if n.Leads() {
			t.replies = append(t.replies, n.Agreed(n.done, entry.Term, done, n.ledger)...)
		}
	}
}

// compact lets a snapshot take the place of what is done, when that is much.
func (n *Node) compact() {
	if n.done-n.base < n.conf.Snap || n.part.Compact(n.done, n.ledger.Pack()) != api.OK {
		return
	}
	n.part.Save() // all of it is laid
	n.keep.Lay(n.part.Kept())
	n.base = n.done
}

// hold lets the vault hold what the ledger needs, and what it may need when its entries are done: of a site that isn't the primary one those are shipped ones, too, or else a loss of all its power would take their chunks away.
func (n *Node) hold() {
	list := n.ledger.Needs()
	for index := n.done + 1; index <= n.part.Last(); index++ {
		entry, _ := n.part.Entry(index)
		if c, e := commandOf(entry); e == api.OK {
			list = append(list, hashesOf(append(c.Ops, c.Op)...)...)
		}
	}
	n.vault.Hold(list...)
	n.vault.Free(n.held...)
	n.held = list
}

func hashesOf(ops ...api.Op) []string {
	var list []string
	for _, o := range ops {
		list = append(list, o.Sheet.Hashes...)
	}
	return list
}

// report makes its own report anew.
func (n *Node) report() {
	r := api.Reach{At: n.ledger.Last()}
	missing := n.vault.Missing(n.ledger.Needs()...)
	for _, o := range n.ledger.Puts() {
		if slices.ContainsFunc(o.Sheet.Hashes, func(hash string) bool { return slices.Contains(missing, hash) }) {
			r.Holes = append(r.Holes, o.N)
		}
	}
	n.reports[n.own()] = r
}

// hasPlace answers whether the ledger has an operation of that place.
func (n *Node) hasPlace(at api.Spot) bool {
	return slices.ContainsFunc(n.ledger.Ops(), func(o api.Op) bool { return api.Spot{N: o.N, Epoch: o.Epoch} == at })
}

// mark answers up to where two nodes of the site have all chunks, as far as was reported.
func (n *Node) mark() api.Reach {
	var list []api.Reach
	for _, r := range n.reports {
		if r.At == (api.Spot{}) || n.hasPlace(r.At) {
			list = append(list, r)
		}
	}
	if len(list) < 2 {
		return api.Reach{}
	}
	slices.SortStableFunc(list, func(a, b api.Reach) int { return b.At.N - a.At.N })
	site := api.Reach{At: list[1].At}
	for number := 1; number <= site.At.N; number++ {
		if count(list, number) < 2 {
			site.Holes = append(site.Holes, number)
		}
	}
	return site
}

// count answers how many of the reports have a number.
func count(reports []api.Reach, number int) int {
	have := 0
	for _, r := range reports {
		if r.At.N >= number && !slices.Contains(r.Holes, number) {
			have++
		}
	}
	return have
}

// settle answers requests that are far enough. Where the site isn't the primary one any more, nobody tells how far they are at the other one: what still waits when all is whole here would wait for ever.
func (n *Node) settle() []api.Reply {
	site := n.mark()
	replies := n.Settle(n.ledger, site, n.lane.Mark(), n.lane.Whole())
	if n.lane == nil && site.At == n.ledger.Last() && len(site.Holes) == 0 {
		replies = append(replies, n.Settle(nil, api.Reach{}, api.Spot{}, api.Reach{})...)
	}
	return replies
}

// reignOn gives a primary site's leader its lane, and proposes what follows of what it knows of epochs and of the other site.
func (n *Node) reignOn(t *turn) {
	if !n.Leads() {
		return
	}
	holder, fence := n.ledger.Holder(), n.ledger.Fence()
	if holder.Epoch == 0 || holder.Epoch != fence || holder.Site != n.site {
		n.lane = nil
	} else if n.lane == nil || n.reign != fence {
		n.lane, _ = lane.New(fence, n.site, n.ledger.Last().N)
		n.reign = fence
	}
	if !n.allDone() {
		return
	}
	if c, ok := n.Next(n.ledger); ok {
		n.propose(t, c)
		return
	}
	if at := n.lane.Mark(); at.N > n.ledger.Settled() && n.hasPlace(at) {
		n.propose(t, api.Command{Kind: api.CmdMark, Epoch: fence, Site: n.site, After: at.N, Since: at.Epoch})
	}
}
