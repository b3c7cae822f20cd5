package node_test

import (
	"slices"
	"testing"

	"redoubt/api"
	"redoubt/carve"
	"redoubt/deed"
	"redoubt/disk"
	"redoubt/keep"
	"redoubt/node"
	"redoubt/sha"
)

// P23.3, behind each call: a vote that was told lasts, wherever the power goes.
func TestP23_3VoteLasts(t *testing.T) {
	for fuse := range 6 {
		x := newNet(t, conf)
		x.drives[1].Fuse(fuse)
		ask := api.Mail{Kind: api.MailAsk, Term: 4, Index: 9, Prev: 1}
		_, letters := x.nodes[1].Take(letter(t, 0, 1, ask))
		told := len(letters) > 0
		if told != (fuse >= 2) {
			t.Error(fuse, "told", told)
		}
		x.crash(1)
		_, letters = x.nodes[1].Take(letter(t, 2, 1, ask))
		_, mails := read(t, letters, api.MailVote)
		if len(mails) != 1 || told && mails[0].Good {
			t.Error(fuse, "it votes twice", mails)
		}
	}
}

// P23.2, behind each call: what is proposed lasts ahead of its letters; nothing is said when the power goes.
func TestP23_2Lasts(t *testing.T) {
	for fuse := range 20 {
		x := ruled(t, conf)
		lead := x.leader(0)
		x.drives[lead].Fuse(fuse)
		replies, letters := x.nodes[lead].Ask(7, put("a", long("a", 100), 1, 0, 0))
		if x.drives[lead].Down() {
			if replies != nil || letters != nil || x.nodes[lead].Leads() {
				t.Error(fuse, "it says something")
			}
			x.crash(lead)
			continue
		}
		if len(letters) != 2 || x.nodes[lead].Waits() != 1 {
			t.Error(fuse, len(letters))
		}
		x.drives[lead].Crash()
		_, kept, _ := keep.Open(x.drives[lead].Copy())
		_, mails := read(t, letters, api.MailFeed)
		last := mails[0].Entries[len(mails[0].Entries)-1]
		if n := len(kept.Entries); n == 0 || kept.Entries[n-1] != last {
			t.Error(fuse, "the entry doesn't last")
		}
		for _, chunk := range carve.Cut(long("a", 100)) {
			if s, _ := x.drives[lead].Read("b." + sha.Name(sha.Sum(chunk))); s != chunk {
				t.Error(fuse, "a chunk doesn't last")
			}
		}
		if fuse > 12 {
			return
		}
	}
	t.Error("the power always goes")
}

// Behind each call: who leads no more tells what waits that nobody knows, and forgets what a leader knows.
func TestP23_3StepsDown(t *testing.T) {
	x := ruled(t, conf)
	lead := x.leader(0)
	mate := (lead + 1) % 3
	x.letters = nil
	var numbers []int
	for _, a := range []api.Ask{put("a", "x", 1, 0, 0), {Kind: api.AskList}, put("b", "y", 2, api.ModeSync, 0)} {
		numbers = append(numbers, x.ask(0, a))
	}
	x.nodes[lead].Take(letter(t, 3, lead, api.Mail{Kind: api.MailShip, Epoch: 3, Site: 1}))
	x.ask(0, api.Ask{Kind: api.AskReign})
	_, letters := x.nodes[lead].Tick(0)
	if _, mails := read(t, letters, api.MailClaim); mails[0].Epoch != 4 {
		t.Fatal(mails)
	}
	x.replies = nil
	replies, letters := x.nodes[lead].Take(letter(t, mate, lead, api.Mail{Kind: api.MailAsk, Term: 1000, Index: 1 << 30, Prev: 999}))
	if len(replies) != 3 || len(letters) != 1 {
		t.Fatal(replies, len(letters))
	}
	for i, r := range replies {
		if r.Ask != numbers[i] || r.Err != api.ErrUnsure || r.At != (api.Spot{}) {
			t.Error(r)
		}
	}
	if n := x.nodes[lead]; n.Waits() != 0 || n.Leads() {
		t.Error(n.Waits(), n.Leads())
	}
	_, letters = x.nodes[lead].Tick(0)
	if to, _ := read(t, letters, api.MailClaim); len(to) != 0 {
		t.Error("who doesn't lead asks the witness")
	}
	if to, _ := read(t, letters, api.MailShip); len(to) != 0 {
		t.Error("who doesn't lead ships")
	}
	x.letters = nil
	for !x.nodes[lead].Leads() {
		x.tick(lead)
		if _, mails := read(t, x.letters, api.MailAsk); len(mails) > 0 {
			x.did(x.nodes[lead].Take(letter(t, mate, lead, api.Mail{Kind: api.MailVote, Term: mails[len(mails)-1].Term, Good: true})))
		}
	}
	_, letters = x.nodes[lead].Tick(0)
	if _, mails := read(t, letters, api.MailClaim); len(mails) != 1 || mails[0].Epoch != 0 {
		t.Error("its crown doesn't rest", mails)
	}
}

// Behind each call: a new leader counts no reports of the time when it led before.
func TestP23_3ReportsAnew(t *testing.T) {
	x := ruled(t, conf)
	x.put(0, "a", 1)
	lead := x.leader(0)
	mate := (lead + 1) % 3
	at := x.nodes[lead].Ledger().Last()
	x.letters = nil
	x.anew(lead)
	n := x.ask(0, put("a", "data of a", 1, 0, 0)) // the same once more: its place is {2, 1}
	for range 4 {
		for _, l := range x.letters {
			if l.To == mate {
				_, letters := x.nodes[mate].Take(l)
				for _, back := range letters {
					x.did(x.nodes[lead].Take(back))
				}
			}
		}
		x.drop(func(l api.Letter) bool { return l.To != mate })
		x.letters = x.letters[len(x.letters):]
		_, letters := x.nodes[lead].Tick(0)
		x.letters = letters
		x.drop(isKind(api.MailWhole))
	}
	x.waits("no report came", n)
	x.did(x.nodes[lead].Take(letter(t, mate, lead, api.Mail{Kind: api.MailWhole, At: at})))
	x.answered("one came", n, api.OK, 2, 1)
}

// Behind each call: snapshots take the place of what is done; who is behind gets one.
func TestP23_3Snapshots(t *testing.T) {
	c := conf
	c.Snap = 4
	x := ruled(t, c)
	x.put(0, "a", 1)
	lead := x.leader(0)
	away := (lead + 1) % 3
	for i := range 6 {
		x.ask(0, put("n"+string(rune('a'+i)), "x", 10+i, 0, 0))
		for range 3 {
			x.tick(lead, (lead+2)%3, 3, 4, 5)
			x.drop(func(l api.Letter) bool { return l.To == away || l.From == away })
			x.deliver2(away)
		}
	}
	_, kept, _ := keep.Open(x.drives[lead].Copy())
	if kept.Base == 0 || kept.Base+4 <= x.nodes[lead].Applied() || kept.Snap == "" {
		t.Error("no snapshot", kept.Base, x.nodes[lead].Applied())
	}
	if x.nodes[away].Applied() >= kept.Base {
		t.Fatal("it isn't behind")
	}
	x.letters = nil
	x.rounds(6)
	for id := range 3 {
		if x.nodes[id].Ledger().Pack() != x.nodes[lead].Ledger().Pack() || x.nodes[id].Applied() != x.nodes[lead].Applied() || len(x.nodes[id].Missing()) != 0 {
			t.Error(id, x.nodes[id].Applied(), x.nodes[lead].Applied())
		}
	}
	before := x.nodes[away].Ledger().Pack()
	x.crash(away)
	x.rounds(8)
	if x.nodes[away].Ledger().Pack() != before {
		t.Error("opened anew it has another ledger")
	}
}

// Behind each call: entries that a snapshot takes the place of are as many as Snap says, no less and no more than came at one time.
func TestP23_3Snap(t *testing.T) {
	c := conf
	c.Snap = 3
	x := newNet(t, c)
	base := [6]int{}
	steps := 0
	check := func(id int) {
		t.Helper()
		_, kept, _ := keep.Open(x.drives[id].Copy())
		if kept.Base != base[id] && kept.Base < base[id]+3 || x.nodes[id].Applied() >= kept.Base+3 {
			t.Fatal(id, "base", base[id], kept.Base, "done", x.nodes[id].Applied())
		}
		if kept.Base != base[id] {
			steps++
		}
		base[id] = kept.Base
	}
	for i := range 60 {
		x.tick(0, 1, 2)
		if i > 5 {
			for id := range 3 {
				if x.nodes[id].Leads() {
					x.did(x.nodes[id].Ask(i, api.Ask{Kind: api.AskList}))
				}
			}
		}
		for len(x.letters) > 0 {
			l := x.letters[0]
			x.letters = x.letters[1:]
			if l.To < 3 {
				x.did(x.nodes[l.To].Take(l))
				check(l.To)
			}
		}
	}
	if steps < 20 {
		t.Error("few snapshots", steps)
	}
}

// Behind each call: a snapshot that comes is the node's ledger at once, and it goes on from there.
func TestP23_3SnapshotCame(t *testing.T) {
	x := ruled(t, conf)
	x.put(0, "a", 1)
	l := x.nodes[0].Ledger()
	c := conf
	c.Snap = 64
	n, e := node.Open(c, 1, disk.New())
	if e != api.OK {
		t.Fatal(e)
	}
	_, letters := n.Take(letter(t, 0, 1, api.Mail{Kind: api.MailLay, Term: 5, Index: 40, Prev: 4, Data: l.Pack()}))
	if _, mails := read(t, letters, api.MailFed); len(mails) != 1 || !mails[0].Good || mails[0].Index != 40 {
		t.Error(mails)
	}
	if w := n.Whole(); n.Ledger().Pack() != l.Pack() || n.Applied() != 40 || w.At != (api.Spot{N: 2, Epoch: 1}) || !slices.Equal(w.Holes, []int{2}) || len(n.Missing()) != 1 {
		t.Error(n.Applied(), w, len(n.Missing()))
	}
	w := n.Whole()
	w.Holes[0] = 9
	if n.Whole().Holes[0] != 2 {
		t.Error("what is answered is new memory")
	}
	more := api.Command{Kind: api.CmdReign, Epoch: 3, Site: 1}
	n.Take(letter(t, 0, 1, api.Mail{Kind: api.MailFeed, Term: 5, Index: 40, Prev: 4, Commit: 41, Entries: []api.Entry{{Term: 5, Data: deed.Pack(more)}}}))
	for range 3 {
		n.Take(letter(t, 0, 1, api.Mail{Kind: api.MailFeed, Term: 5, Index: 41, Prev: 5, Commit: 41}))
		if n.Applied() != 41 || n.Ledger().Last() != (api.Spot{N: 3, Epoch: 3}) {
			t.Error(n.Applied(), n.Ledger().Last())
		}
	}
}

// Behind each call: what is proposed of itself lasts ahead of its letters, and is proposed once.
func TestP23_3Reigns(t *testing.T) {
	x := newNet(t, conf)
	x.rounds(4)
	lead := x.leader(0)
	last := func() int {
		_, kept, _ := keep.Open(x.drives[lead].Copy())
		return kept.Base + len(kept.Entries)
	}
	before := last()
	grant := letter(t, 6, lead, api.Mail{Kind: api.MailGrant, Epoch: 1})
	_, letters := x.nodes[lead].Take(grant)
	to, mails := read(t, letters, api.MailFeed)
	if len(to) != 2 || len(letters) != 2 || len(mails[0].Entries) != 1 {
		t.Fatal(to, mails)
	}
	if c, e := deed.Parse(mails[0].Entries[0].Data); e != api.OK || c.Kind != api.CmdReign || c.Epoch != 1 || c.Site != 0 {
		t.Error(c, e)
	}
	if last() != before+1 {
		t.Error("it doesn't last")
	}
	x.nodes[lead].Take(grant)
	x.nodes[lead].Tick(0)
	if last() != before+1 {
		t.Error("proposed twice")
	}
}

// deliver2 is deliver, but for a node that hears nothing.
func (x *net) deliver2(away int) {
	for len(x.letters) > 0 {
		l := x.letters[0]
		x.letters = x.letters[1:]
		switch l.To {
		case away:
		case api.Witness:
			x.witness(l)
		default:
			x.did(x.nodes[l.To].Take(l))
		}
	}
}

// Behind each call: entries that aren't done hold their chunks, also when the node is opened anew.
func TestP23_1Holds(t *testing.T) {
	x := ruled(t, conf)
	lead := x.leader(0)
	x.letters = nil
	x.did(x.nodes[lead].Ask(0, put("a", "some data", 1, 0, 0)))
	x.crash(lead)
	x.letters = nil
	for range 5 {
		x.nodes[lead].Tick(0)
	}
	if len(x.drives[lead].Names("b.")) != 1 {
		t.Error("the chunk of an entry that isn't done was swept")
	}
	x.rounds(20)
	if l := x.nodes[lead].Ledger(); l.Last().N != 2 || len(x.nodes[lead].Missing()) != 0 {
		t.Error(l.Last(), len(x.nodes[lead].Missing()))
	}
}

// P3 asks that a loss of all power at a site takes no chunks away, also of what was shipped there.
func TestP23_1HoldsShipped(t *testing.T) {
	x := ruled(t, conf)
	n := x.ask(0, put("a", long("a", 100), 1, api.ModeSync, 0))
	x.rounds(16)
	x.answered("sync", n, api.OK, 2, 1)
	for _, id := range []int{3, 4, 5} {
		x.crash(id)
		if x.nodes[id].Applied() > 0 {
			t.Fatal("it begins with a snapshot")
		}
		for range 5 {
			x.nodes[id].Tick(0)
		}
		if len(x.drives[id].Names("b.")) != 2 {
			t.Error(id, "the chunks of entries that aren't done were swept")
		}
	}
}

// P23.2 to P23.4: the modes, while the other site hears nothing, then something, then all.
func TestP23_2Modes(t *testing.T) {
	x := ruled(t, conf)
	async := x.ask(0, put("a", "aa", 1, api.ModeAsync, 0))
	lag2 := x.ask(0, put("b", "bb", 2, api.ModeLag, 2))
	lag1 := x.ask(0, put("c", "cc", 3, api.ModeLag, 2))
	sync := x.ask(0, put("d", "dd", 4, api.ModeSync, 0))
	x.without(12)
	x.answered("async", async, api.OK, 2, 1)
	x.answered("two ahead may be lost", lag2, api.OK, 3, 1)
	x.waits("lag", lag1)
	x.waits("sync", sync)
	for range 12 {
		x.tick(0, 1, 2, 3, 4, 5)
		for len(x.letters) > 0 {
			l := x.letters[0]
			x.letters = x.letters[1:]
			if between := l.From/3 != l.To/3; l.To == api.Witness || between && isKind(api.MailBlob)(l) {
				continue
			}
			x.did(x.nodes[l.To].Take(l))
		}
	}
	x.answered("lag", lag1, api.OK, 4, 1)
	x.waits("sync, without chunks", sync)
	x.rounds(12)
	x.answered("sync", sync, api.OK, 5, 1)
}

// DOC.md's examples 6 to 8: a site is lost, the other one goes on, and the first one tells what was lost when it is heard again.
func TestP23_2Lost(t *testing.T) {
	x := ruled(t, conf)
	a := x.ask(0, put("a", long("a", 200), 1, api.ModeSync, 0))
	x.rounds(16)
	x.answered("sync", a, api.OK, 2, 1)
	l := x.ask(1, api.Ask{Kind: api.AskList})
	x.rounds(4)
	if r := x.answered("list at the other site", l, api.OK, 2, 1); !slices.Equal(r.Names, []string{"a"}) {
		t.Error(r)
	}
	b := x.ask(0, put("b", "bb", 2, api.ModeAsync, 0))
	x.without(12)
	x.answered("async", b, api.OK, 3, 1)
	n := x.ask(1, api.Ask{Kind: api.AskReign})
	x.answered("reign", n, api.OK, 2, 1)
	far := func() {
		for range 8 {
			x.tick(3, 4, 5)
			x.drop(func(l api.Letter) bool { return l.To < 3 })
			for len(x.letters) > 0 {
				l := x.letters[0]
				x.letters = x.letters[1:]
				if l.To == api.Witness {
					x.witness(l)
				} else if l.To >= 3 {
					x.did(x.nodes[l.To].Take(l))
				}
			}
		}
	}
	far()
	r := x.ask(1, api.Ask{Kind: api.AskRestore, Name: "a"})
	far()
	if got := x.answered("restore", r, api.OK, 3, 2); got.Data != long("a", 200) {
		t.Error(len(got.Data))
	}
	x.rounds(12)
	for id := range 6 {
		l := x.nodes[id].Ledger()
		if l.Last() != (api.Spot{N: 3, Epoch: 2}) || l.Fence() != 2 {
			t.Error(id, l.Last(), l.Fence())
		}
	}
	lost := x.ask(0, api.Ask{Kind: api.AskLost})
	x.rounds(3)
	if got := x.answered("lost", lost, api.OK, 3, 2); len(got.Lost) != 1 || got.Lost[0].Name != "b" || got.Lost[0].N != 3 || got.Lost[0].Epoch != 1 {
		t.Error(got)
	}
}

// P27.4 asks that no request waits for ever: at a site that isn't the primary one any more nobody hears how far it is at the other one.
func TestP23_2Deposed(t *testing.T) {
	x := ruled(t, conf)
	n := x.ask(0, put("a", "aa", 1, api.ModeSync, 0))
	async := x.ask(0, put("b", "bb", 2, api.ModeAsync, 0))
	deaf := func() { // site 0 doesn't hear how far it is at the other one
		for range 12 {
			x.tick(0, 1, 2, 3, 4, 5)
			for len(x.letters) > 0 {
				l := x.letters[0]
				x.letters = x.letters[1:]
				if l.To == api.Witness {
					x.witness(l)
				} else if l.From < 3 || l.To >= 3 || !isKind(api.MailShipped)(l) {
					x.did(x.nodes[l.To].Take(l))
				}
			}
		}
	}
	deaf()
	x.waits("nobody said that the other site has it", n)
	x.answered("its own site has it", async, api.OK, 3, 1)
	x.ask(1, api.Ask{Kind: api.AskReign})
	lead := x.leader(0)
	deaf()
	if x.leader(0) != lead || x.nodes[lead].Ledger().Last() != (api.Spot{N: 4, Epoch: 2}) {
		t.Fatal("the other site isn't the primary one", x.nodes[lead].Ledger().Last())
	}
	x.answered("nobody knows", n, api.ErrUnsure, 0, 0)
	if w := x.nodes[lead].Waits(); w != 0 {
		t.Error(w)
	}
}

// A site that is the primary one no more answers what is far enough there.
func TestP23_2DeposedAsync(t *testing.T) {
	x := ruled(t, conf)
	n := x.ask(0, put("a", "aa", 1, api.ModeAsync, 0))
	sync := x.ask(0, put("b", "bb", 2, api.ModeSync, 0))
	play := func(rounds int) { // at site 0 nobody hears how far the others are whole
		for range rounds {
			x.tick(0, 1, 2, 3, 4, 5)
			for len(x.letters) > 0 {
				l := x.letters[0]
				x.letters = x.letters[1:]
				if l.To == api.Witness {
					x.witness(l)
				} else if l.To >= 3 || !isKind(api.MailWhole)(l) {
					x.did(x.nodes[l.To].Take(l))
				}
			}
		}
	}
	play(12)
	x.ask(1, api.Ask{Kind: api.AskReign})
	play(12)
	lead := x.leader(0)
	if x.nodes[lead].Ledger().Last() != (api.Spot{N: 4, Epoch: 2}) {
		t.Fatal(x.nodes[lead].Ledger().Last())
	}
	x.waits("nobody reported", n)
	x.waits("nobody reported", sync)
	x.rounds(3)
	x.answered("async", n, api.OK, 2, 1)
	x.answered("sync", sync, api.ErrUnsure, 0, 0)
}

// DOC.md's example 9: a bit turns.
func TestP23_2Corrupt(t *testing.T) {
	x := ruled(t, conf)
	x.put(0, "a", 1)
	lead := x.leader(0)
	d := x.drives[lead]
	name := "b." + sha.Name(sha.Sum("data of a"))
	d.Flip(name, 3)
	n := x.ask(0, api.Ask{Kind: api.AskRestore, Name: "a"})
	x.deliver()
	x.answered("a bit turned", n, api.ErrCorrupt, 2, 1)
	if w := x.nodes[lead].Missing(); len(w) != 1 {
		t.Error("it isn't missed", len(w))
	}
	n = x.ask(0, api.Ask{Kind: api.AskRestore, Name: "a"})
	x.deliver()
	x.waits("missing", n)
	x.rounds(8)
	if r := x.answered("fetched anew", n, api.OK, 2, 1); r.Data != "data of a" {
		t.Error(r)
	}
	n = x.ask(0, api.Ask{Kind: api.AskRestore, Name: "none"})
	x.rounds(3)
	x.answered("no such name", n, api.ErrNotFound, 2, 1)
}
