package node_test

import (
	"slices"
	"strings"
	"testing"

	"redoubt/api"
	"redoubt/disk"
	"redoubt/mail"
	"redoubt/node"
)

var conf = api.Conf{Quota: 4000, Ops: 64, Epochs: 16, Rate: 100, Burst: 1000, Base: 2, Spread: 3, Snap: 20}

// net is six nodes, and letters between them; the witness is told by what it granted.
type net struct {
	t       *testing.T
	conf    api.Conf
	drives  [6]*disk.Disk
	nodes   [6]*node.Node
	letters []api.Letter
	replies []api.Reply
	granted api.Grant
	asked   int
}

func newNet(t *testing.T, c api.Conf) *net {
	t.Helper()
	x := &net{t: t, conf: c}
	for id := range x.nodes {
		x.drives[id] = disk.New()
		x.open(id)
	}
	return x
}

func (x *net) open(id int) {
	x.t.Helper()
	n, e := node.Open(x.conf, id, x.drives[id])
	if e != api.OK || n == nil {
		x.t.Fatal("Open", id, e)
	}
	x.nodes[id] = n
}

func (x *net) did(replies []api.Reply, letters []api.Letter) {
	x.replies = append(x.replies, replies...)
	x.letters = append(x.letters, letters...)
}

// crash takes a node's power, and opens it anew.
func (x *net) crash(id int, keeps ...int) {
	x.drives[id].Crash(keeps...)
	x.open(id)
}

func (x *net) tick(ids ...int) {
	for _, id := range ids {
		x.did(x.nodes[id].Tick(id))
	}
}

// drop loses all letters that are to go.
func (x *net) drop(goes func(l api.Letter) bool) {
	x.letters = slices.DeleteFunc(x.letters, goes)
}

// deliver lets all letters come, in order, till there is none.
func (x *net) deliver() {
	for len(x.letters) > 0 {
		l := x.letters[0]
		x.letters = x.letters[1:]
		if l.To == api.Witness {
			x.witness(l)
			continue
		}
		x.did(x.nodes[l.To].Take(l))
	}
}

func (x *net) witness(l api.Letter) {
	m, e := mail.Parse(l.Data)
	if e != api.OK || m.Kind != api.MailClaim {
		x.t.Fatal("the witness gets", m.Kind, e)
	}
	if m.Epoch == x.granted.Epoch+1 {
		x.granted = api.Grant{Epoch: m.Epoch, Site: m.Site}
	}
	x.letters = append(x.letters, letter(x.t, api.Witness, l.From, api.Mail{Kind: api.MailGrant, Epoch: x.granted.Epoch, Site: x.granted.Site}))
}

// rounds lets time go on at all nodes, and all letters come, so often.
func (x *net) rounds(n int) {
	for range n {
		x.tick(0, 1, 2, 3, 4, 5)
		x.deliver()
	}
}

// without is rounds of site 0 alone, in which no mail of these kinds comes.
func (x *net) without(n int, kinds ...int) {
	lost := isKind(kinds...)
	for range n {
		x.tick(0, 1, 2)
		for len(x.letters) > 0 {
			l := x.letters[0]
			x.letters = x.letters[1:]
			if l.To < 3 && !lost(l) {
				x.did(x.nodes[l.To].Take(l))
			}
		}
	}
}

func (x *net) leader(site int) int {
	x.t.Helper()
	for id := 3 * site; id < 3*site+3; id++ {
		if x.nodes[id].Leads() {
			return id
		}
	}
	x.t.Fatal("nobody leads site", site)
	return 0
}

// ask asks a site's leader, and answers the request's number.
func (x *net) ask(site int, a api.Ask) int {
	x.t.Helper()
	number := x.asked
	x.asked++
	x.did(x.nodes[x.leader(site)].Ask(number, a))
	return number
}

// reply answers what a request was answered, and whether it was.
func (x *net) reply(number int) (api.Reply, bool) {
	x.t.Helper()
	var list []api.Reply
	for _, r := range x.replies {
		if r.Ask == number {
			list = append(list, r)
		}
	}
	if len(list) > 1 {
		x.t.Fatal("two replies to one request", list)
	}
	if len(list) == 0 {
		return api.Reply{}, false
	}
	return list[0], true
}

func (x *net) answered(what string, number int, e api.Errno, n, epoch int) api.Reply {
	x.t.Helper()
	r, ok := x.reply(number)
	if !ok || r.Err != e || r.At != (api.Spot{N: n, Epoch: epoch}) {
		x.t.Errorf("%s: %+v, %v, not %d {%d %d}", what, r, ok, e, n, epoch)
	}
	return r
}

func (x *net) waits(what string, number int) {
	x.t.Helper()
	if r, ok := x.reply(number); ok {
		x.t.Errorf("%s: answered %+v", what, r)
	}
}

// ruled answers a net in which site 0 is the primary one, in epoch 1.
func ruled(t *testing.T, c api.Conf) *net {
	t.Helper()
	x := newNet(t, c)
	x.rounds(4)
	n := x.ask(0, api.Ask{Kind: api.AskReign})
	x.answered("reign", n, api.OK, 0, 0)
	x.rounds(8) // till the other site has that, and this one knows it
	if l := x.nodes[0].Ledger(); l.Holder() != (api.Grant{Epoch: 1}) {
		t.Fatal("no epoch began", l.Holder())
	}
	return x
}

func put(name, data string, seq, mode, lag int) api.Ask {
	return api.Ask{Kind: api.AskPut, Client: 1, Seq: seq, Name: name, Data: data, Mode: mode, Lag: lag}
}

func letter(t *testing.T, from, to int, m api.Mail) api.Letter {
	t.Helper()
	data, e := mail.Pack(m)
	if e != api.OK {
		t.Fatal("no mail", m)
	}
	return api.Letter{From: from, To: to, Data: data}
}

// read answers the mails of letters of a kind, and to whom they go.
func read(t *testing.T, letters []api.Letter, kind int) (to []int, mails []api.Mail) {
	t.Helper()
	for _, l := range letters {
		m, e := mail.Parse(l.Data)
		if e != api.OK {
			t.Fatal("a letter is no mail")
		}
		if m.Kind == kind {
			to, mails = append(to, l.To), append(mails, m)
		}
	}
	return to, mails
}

// isKind answers whether a letter is a mail of one of the kinds.
func isKind(kinds ...int) func(l api.Letter) bool {
	return func(l api.Letter) bool {
		m, _ := mail.Parse(l.Data)
		return slices.Contains(kinds, m.Kind)
	}
}

func long(c string, n int) string { return strings.Repeat(c, n) }
