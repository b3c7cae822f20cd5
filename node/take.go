package node

import (
	"slices"

	"redoubt/api"
	"redoubt/bucket"
	"redoubt/hunt"
	"redoubt/lane"
	"redoubt/mail"
	"redoubt/sha"
)

// Take takes a letter.
func (n *Node) Take(l api.Letter) ([]api.Reply, []api.Letter) {
	return n.call(func(t *turn) {
		if m, e := mail.Parse(l.Data); e == api.OK && l.To == n.id {
			n.take(t, l.From, m)
		}
	})
}

func (n *Node) take(t *turn, from int, m api.Mail) {
	mate := n.isMine(from) && from != n.id
	switch m.Kind {
	case api.MailAsk, api.MailVote, api.MailFeed, api.MailFed, api.MailLay:
		if mate {
			n.say(t, n.part.Take(from%api.PerSite, m)...)
		}
	case api.MailWhole:
		if mate {
			n.reports[from%api.PerSite] = api.Reach{At: m.At, Holes: m.Holes}
		}
	case api.MailWant:
		n.takeWant(t, from, m)
	case api.MailBlob:
		n.takeBlob(m)
	case api.MailShip:
		if n.isFar(from) && n.Leads() {
			n.takeShip(t, from, m)
		}
	case api.MailShipped:
		if n.isFar(from) && n.lane != nil {
			n.Hear(n.lane.Take(m, n.ledger.Ops()))
		}
	case api.MailGrant:
		if from == api.Witness {
			n.Crown.Take(m)
		}
	}
}

// takeWant lets chunks go back; to all but its own site as fast as may be.
func (n *Node) takeWant(t *turn, from int, m api.Mail) {
	var b *bucket.Bucket
	if !n.isMine(from) {
		b = n.bucket
	}
	for _, chunk := range hunt.Serve(n.vault, b, m.Hashes...) {
		t.others = append(t.others, n.letters(from, api.Mail{Kind: api.MailBlob, Data: chunk})...)
	}
}

func (n *Node) takeBlob(m api.Mail) {
	if slices.Contains(n.Missing(), sha.Sum(m.Data)) {
		n.put(m.Data)
	}
}

// takeShip meets what the other site's leader sends: it is answered, or agreed on first.
func (n *Node) takeShip(t *turn, from int, m api.Mail) {
	n.Hear(m.Epoch)
	answer, c, what := lane.Meet(n.ledger, m, n.mark())
	switch {
	case what == lane.Answer:
		t.others = append(t.others, n.letters(from, answer)...)
	case what == lane.Propose && n.allDone():
		n.propose(t, c)
	}
}

// Tick lets its time go on.
func (n *Node) Tick(draw int) ([]api.Reply, []api.Letter) {
	return n.call(func(t *turn) {
		n.bucket.Tick()
		n.say(t, n.part.Tick(draw)...)
		n.vault.Sweep()
		if to, hashes := n.Hunt.Tick(n.Missing()...); len(hashes) > 0 {
			t.others = append(t.others, n.letters(to, api.Mail{Kind: api.MailWant, Hashes: hashes})...)
		}
		n.tell(t)
	})
}

// tell says how far it is: to its site, and, if it leads, to the witness and the other site.
func (n *Node) tell(t *turn) {
	mine, far := n.site*api.PerSite, (1-n.site)*api.PerSite
	own := n.reports[n.own()]
	for node := mine; node < mine+api.PerSite; node++ {
		if node != n.id {
			t.others = append(t.others, n.letters(node, api.Mail{Kind: api.MailWhole, At: own.At, Holes: own.Holes})...)
		}
	}
	if !n.Leads() {
		return
	}
	t.others = append(t.others, n.letters(api.Witness, n.Crown.Tick())...)
	if n.lane == nil {
		return
	}
	offer := n.lane.Offer(n.ledger.Ops())
	for node := far; node < far+api.PerSite; node++ {
		t.others = append(t.others, n.letters(node, offer)...)
	}
}
