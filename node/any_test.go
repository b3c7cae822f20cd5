package node_test

import (
	"math/rand"
	"testing"

	"redoubt/api"
	"redoubt/deed"
	"redoubt/disk"
	"redoubt/ledger"
	"redoubt/mail"
	"redoubt/node"
	"redoubt/sha"
)

// someMail answers any mail, most often a right one, that nobody may have sent.
func someMail(rnd *rand.Rand) api.Mail {
	n := func(most int) int { return rnd.Intn(most) }
	place := func() api.Spot {
		if n(4) == 0 {
			return api.Spot{}
		}
		return api.Spot{N: 1 + n(5), Epoch: 1 + n(3)}
	}
	epoch, site := 1+n(4), n(2)
	op := api.Op{N: 1, Epoch: epoch, Kind: api.OpReign, Site: site}
	command := []api.Command{{}, {Kind: api.CmdReign, Epoch: epoch, Site: site}, {Kind: api.CmdShip, Epoch: epoch, Site: site, Ops: []api.Op{op}}, {Kind: api.CmdMark, Epoch: epoch, Site: site, After: 1, Since: 1}, {Kind: api.CmdDo, Epoch: epoch, Site: site, Op: api.Op{Kind: api.OpPut, Seq: 1 + n(9), Name: "n", Sheet: api.Sheet{Size: 1, Hashes: []string{sha.Sum("x")}}}}}[n(5)]
	l, _ := ledger.New(100, 64)
	l.Apply(command)
	data := []string{"", "none", deed.Pack(command), l.Pack(), "x"}[n(5)]
	m := api.Mail{Kind: n(14), Term: n(9), Index: n(9), Prev: n(5), Commit: n(12), Good: n(2) == 0, Data: data, Epoch: n(5), Site: site, At: place(), Whole: place(), Hashes: []string{sha.Sum("x")}, Ops: []api.Op{op}}
	for range n(3) {
		m.Entries = append(m.Entries, api.Entry{Term: 1 + n(5), Data: data})
	}
	if n(3) == 0 {
		m.Holes = []int{1}
	}
	return bare(m)
}

// bare takes away what a mail's kind doesn't name.
func bare(m api.Mail) api.Mail {
	b := api.Mail{Kind: m.Kind}
	switch m.Kind {
	case api.MailAsk:
		b.Term, b.Index, b.Prev = m.Term, m.Index, m.Prev
	case api.MailVote:
		b.Term, b.Good = m.Term, m.Good
	case api.MailFeed:
		b.Term, b.Index, b.Prev, b.Commit, b.Entries = m.Term, m.Index, m.Prev, m.Commit, m.Entries
	case api.MailFed:
		b.Term, b.Good, b.Index = m.Term, m.Good, m.Index
	case api.MailLay:
		b.Term, b.Index, b.Prev, b.Data = m.Term, m.Index, m.Prev, m.Data
	case api.MailWhole:
		b.At, b.Holes = m.At, m.Holes
	case api.MailWant:
		b.Hashes = m.Hashes
	case api.MailBlob:
		b.Data = m.Data
	case api.MailShip:
		b.Epoch, b.Site, b.At, b.Ops = m.Epoch, m.Site, m.At, m.Ops
	case api.MailShipped:
		b.Epoch, b.Good, b.At, b.Whole, b.Holes = m.Epoch, m.Good, m.At, m.Whole, m.Holes
	case api.MailClaim, api.MailGrant:
		b.Epoch, b.Site = m.Epoch, m.Site
	}
	return b
}

// P23.2 to P23.4, and rule 1: whatever comes, each call ends, and what is said is mails.
func TestP23_3Any(t *testing.T) {
	for seed := range 150 {
		rnd := rand.New(rand.NewSource(int64(seed)))
		c := conf
		c.Snap = 1 + rnd.Intn(5)
		d := disk.New()
		n, e := node.Open(c, 1, d)
		if e != api.OK {
			t.Fatal(e)
		}
		for i := range 300 {
			var letters []api.Letter
			switch rnd.Intn(8) {
			case 0:
				_, letters = n.Tick(rnd.Intn(1<<20) - 1<<19)
			case 1:
				_, letters = n.Ask(i, api.Ask{Kind: rnd.Intn(8), Client: rnd.Intn(9), Seq: rnd.Intn(20), Name: "n", Data: "data", Mode: rnd.Intn(4), Lag: rnd.Intn(4)})
			default:
				data, _ := mail.Pack(someMail(rnd))
				_, letters = n.Take(api.Letter{From: rnd.Intn(9) - 1, To: 1, Data: data})
			}
			for _, l := range letters {
				if m, e := mail.Parse(l.Data); e != api.OK || l.From != 1 {
					t.Fatal("it says what is no mail", m, e)
				}
			}
		}
	}
	zero := &node.Node{}
	zero.Ask(0, api.Ask{Kind: api.AskList})
	zero.Take(api.Letter{})
	zero.Tick(0)
}
