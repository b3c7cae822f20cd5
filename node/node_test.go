package node_test

import (
	"slices"
	"testing"

	"redoubt/api"
	"redoubt/carve"
	"redoubt/disk"
	"redoubt/keep"
	"redoubt/ledger"
	"redoubt/mail"
	"redoubt/node"
	"redoubt/sha"
	"redoubt/vault"
)

// P23.1: which configurations may be.
func TestP23_1Check(t *testing.T) {
	least := api.Conf{Quota: 1, Ops: 1, Epochs: 1, Rate: 1, Burst: 64, Base: 2, Spread: 1, Snap: 1}
	most := api.Conf{Quota: 1 << 16, Ops: 64, Epochs: 16, Rate: 1 << 12, Burst: 1 << 14, Base: 64, Spread: 64, Snap: 64}
	for _, c := range []api.Conf{least, most, conf} {
		if e := node.Check(c); e != api.OK {
			t.Error(c, e)
		}
	}
	for i, field := range []func(c *api.Conf) *int{func(c *api.Conf) *int { return &c.Quota }, func(c *api.Conf) *int { return &c.Ops }, func(c *api.Conf) *int { return &c.Epochs }, func(c *api.Conf) *int { return &c.Rate }, func(c *api.Conf) *int { return &c.Burst }, func(c *api.Conf) *int { return &c.Base }, func(c *api.Conf) *int { return &c.Spread }, func(c *api.Conf) *int { return &c.Snap }} {
		below, above, negative := least, most, conf
		*field(&below)--
		*field(&above)++
		*field(&negative) = -1
		for _, c := range []api.Conf{below, above, negative} {
			if e := node.Check(c); e != api.ErrArg {
				t.Error(i, c, e)
			}
			if n, e := node.Open(c, 0, disk.New()); n != nil || e != api.ErrArg {
				t.Error(i, c, e)
			}
		}
	}
	if e := node.Check(api.Conf{}); e != api.ErrArg {
		t.Error(e)
	}
}

func kept(t *testing.T, k api.Kept) *disk.Disk {
	t.Helper()
	d := disk.New()
	x, _, e := keep.Open(d)
	if e != api.OK || x.Lay(k) != api.OK {
		t.Fatal("keep", e)
	}
	return d
}

// P23.1: what Open refuses.
func TestP23_1Refused(t *testing.T) {
	down := disk.New()
	down.Fuse(0)
	down.Append("x", "")
	stray := disk.New()
	stray.Append("b.x", "")
	stray.Fuse(0)
	for i, x := range []struct {
		id int
		d  *disk.Disk
		e  api.Errno
	}{{-1, disk.New(), api.ErrArg}, {6, disk.New(), api.ErrArg}, {6, nil, api.ErrArg}, {0, nil, api.ErrNil}, {0, down, api.ErrDown}, {0, stray, api.ErrDown}, {0, kept(t, api.Kept{Vote: 7}), api.ErrForm}, {0, kept(t, api.Kept{Term: 1, Vote: -1, Base: 1, BaseTerm: 1, Snap: "none"}), api.ErrForm}, {0, kept(t, api.Kept{Term: 1, Vote: -1, Base: 1, BaseTerm: 1}), api.ErrForm}} {
		if n, e := node.Open(conf, x.id, x.d); n != nil || e != x.e {
			t.Error(i, e)
		}
	}
	for id := range 6 {
		n, e := node.Open(conf, id, disk.New())
		if e != api.OK || n.Applied() != 0 || n.Leads() || n.Waits() != 0 || len(n.Missing()) != 0 || n.Whole().At != (api.Spot{}) || len(n.Ledger().Ops()) != 0 {
			t.Error(id, e)
		}
	}
}

// P23.1: a node begins with what its drive has: the snapshot's ledger, its chunks.
func TestP23_1Begins(t *testing.T) {
	x := ruled(t, conf)
	n := x.ask(0, put("a", long("a", 100), 1, api.ModeSync, 0))
	x.rounds(20)
	x.answered("put", n, api.OK, 2, 1)
	want := x.nodes[1].Ledger().Pack()
	l, _ := ledger.Load(conf.Quota, conf.Ops, want)
	d := kept(t, api.Kept{Term: 3, Vote: -1, Base: 9, BaseTerm: 2, Snap: l.Pack()})
	v, _ := vault.Open(d, 1<<20)
	chunks := carve.Cut(long("a", 100))
	v.Put(chunks[0])
	opened, e := node.Open(conf, 1, d)
	if e != api.OK || opened.Applied() != 9 || opened.Ledger().Pack() != want {
		t.Fatal(e)
	}
	if m := opened.Missing(); !slices.Equal(m, []string{sha.Sum(chunks[1])}) {
		t.Errorf("misses %d", len(m))
	}
	if w := opened.Whole(); w.At != (api.Spot{N: 2, Epoch: 1}) || !slices.Equal(w.Holes, []int{2}) {
		t.Error(w)
	}
	opened.Tick(0)
	if len(d.Names("b.")) != 1 {
		t.Error("what the ledger needs was swept")
	}
}

// P23.2: requests that are wrong, or come to who doesn't lead.
func TestP23_2Refused(t *testing.T) {
	x := ruled(t, conf)
	lead := x.leader(0)
	follower := (lead + 1) % 3
	good := map[int]api.Ask{1: put("a", "x", 1, 0, 0), 2: {Kind: api.AskDrop, Seq: 1, Name: "a"}, 3: {Kind: api.AskList}, 4: {Kind: api.AskRestore, Name: "a"}, 5: {Kind: api.AskReign}, 6: {Kind: api.AskLost}}
	says := func(what string, id int, a api.Ask, e api.Errno) {
		t.Helper()
		replies, letters := x.nodes[id].Ask(77, a)
		if len(replies) != 1 || replies[0].Ask != 77 || replies[0].Err != e || replies[0].At != (api.Spot{}) || len(letters) != 0 {
			t.Errorf("%s: %+v, %d letters", what, replies, len(letters))
		}
	}
	for _, id := range []int{lead, follower} {
		for kind, a := range good {
			for _, client := range []int{-1, 8} {
				bad := a
				bad.Client = client
				says("client", id, bad, api.ErrArg)
			}
			if a.Client = 7; id == follower {
				says("the last client", id, a, api.ErrFollower)
			}
			named, changes := kind == 1 || kind == 2 || kind == 4, kind <= 2
			for _, name := range []string{"", long("n", 17)} {
				if bad := a; named {
					bad.Name = name
					says("name", id, bad, api.ErrArg)
				}
			}
			for _, bad := range []api.Ask{{Seq: 0}, {Seq: -1}, {Seq: 1<<40 + 1}, {Seq: 1, Mode: -1}, {Seq: 1, Mode: 3}, {Seq: 1, Lag: -1}, {Seq: 1, Lag: 65}} {
				if changes {
					bad.Kind, bad.Name = kind, "a"
					says("seq, mode, lag", id, bad, api.ErrArg)
				}
			}
			if id == follower {
				says("follower", id, a, api.ErrFollower)
			}
		}
		for _, kind := range []int{0, 7, -1, 1 << 40} {
			says("kind", id, api.Ask{Kind: kind, Name: "a", Seq: 1}, api.ErrArg)
		}
		says("long", id, put("a", long("x", 513), 1, 0, 0), api.ErrLong)
		says("long, and no name", id, put("", long("x", 513), 1, 0, 0), api.ErrArg)
	}
	other := x.leader(1)
	says("not the primary site", other, put("a", "x", 1, 0, 0), api.ErrPrimary)
	says("not the primary site", other, good[2], api.ErrPrimary)
	for _, m := range []api.Mail{{Kind: api.MailShip, Epoch: 2, Site: 1}} {
		x.nodes[lead].Take(letter(t, 3, lead, m))
		says("stale", lead, put("a", "x", 1, 0, 0), api.ErrStale)
		says("stale", lead, good[2], api.ErrStale)
	}
	if w := x.nodes[lead].Waits(); w != 0 {
		t.Error("something waits", w)
	}
}

// P23.2: a site becomes the primary one by a request.
func TestP23_2Reign(t *testing.T) {
	c := conf
	c.Epochs = 2
	x := newNet(t, c)
	x.rounds(4)
	lead := x.leader(1)
	n := x.ask(1, api.Ask{Kind: api.AskReign})
	x.answered("wants", n, api.OK, 0, 0)
	n = x.ask(1, api.Ask{Kind: api.AskReign})
	x.answered("wants it already", n, api.OK, 0, 0)
	x.letters = nil
	_, letters := x.nodes[lead].Tick(0)
	if to, mails := read(t, letters, api.MailClaim); !slices.Equal(to, []int{6}) || mails[0].Epoch != 1 || mails[0].Site != 1 {
		t.Error(to, mails)
	}
	x.letters = letters
	x.deliver()
	x.rounds(2)
	if h := x.nodes[lead].Ledger().Holder(); h != (api.Grant{Epoch: 1, Site: 1}) {
		t.Error(h)
	}
	x.answered("put", x.put(1, "a", 1), api.OK, 2, 1)
	n = x.ask(1, api.Ask{Kind: api.AskReign})
	x.answered("where it began", n, api.OK, 1, 1)
	n = x.ask(0, api.Ask{Kind: api.AskReign})
	x.answered("the other site; its last place", n, api.OK, 2, 1)
	x.rounds(4)
	n = x.ask(1, api.Ask{Kind: api.AskReign})
	x.answered("no third epoch", n, api.ErrSaturated, 0, 0)
}

// put asks for a put in mode async, and answers its number when it was answered.
func (x *net) put(site int, name string, seq int) int {
	x.t.Helper()
	n := x.ask(site, put(name, "data of "+name, seq, 0, 0))
	x.rounds(12)
	return n
}

// P23.2: no more wait than may.
func TestP23_2Queue(t *testing.T) {
	x := ruled(t, conf)
	lead := x.leader(0)
	for i := range 8 {
		if r, letters := x.nodes[lead].Ask(i, api.Ask{Kind: api.AskList}); len(r) != 0 || len(letters) != 2 {
			t.Error(i, r, len(letters))
		}
	}
	if w := x.nodes[lead].Waits(); w != 8 {
		t.Error(w)
	}
	for _, a := range []api.Ask{put("a", "x", 1, 0, 0), {Kind: api.AskDrop, Seq: 1, Name: "a"}, {Kind: api.AskList}, {Kind: api.AskLost}, {Kind: api.AskRestore, Name: "a"}} {
		if r, _ := x.nodes[lead].Ask(9, a); len(r) != 1 || r[0].Err != api.ErrQueue {
			t.Error(a.Kind, r)
		}
	}
	if r, _ := x.nodes[lead].Ask(9, api.Ask{Kind: api.AskReign}); len(r) != 1 || r[0].Err != api.OK || r[0].At != (api.Spot{N: 1, Epoch: 1}) {
		t.Error("a reign waits for nothing", r)
	}
}

// P23.2: what waits is proposed, with the fence and the site.
func TestP23_2Proposed(t *testing.T) {
	x := ruled(t, conf)
	n := x.ask(0, put("a", long("a", 100), 5, 0, 0))
	m := x.ask(0, api.Ask{Kind: api.AskDrop, Client: 2, Seq: 7, Name: "a"})
	k := x.ask(0, api.Ask{Kind: api.AskList})
	j := x.ask(0, put("b", "bytes", 9, 0, 0))
	x.waits("put", n)
	x.rounds(12)
	x.answered("put", n, api.OK, 2, 1)
	x.answered("drop", m, api.OK, 3, 1)
	if r := x.answered("list", k, api.OK, 3, 1); len(r.Names) != 0 {
		t.Error(r)
	}
	x.answered("put", j, api.OK, 4, 1)
	ops := x.nodes[0].Ledger().Ops()
	if o := ops[1]; o.Kind != api.OpPut || o.Client != 1 || o.Seq != 5 || o.Name != "a" || o.Epoch != 1 || o.Site != 0 || o.Sheet.Size != 100 || len(o.Sheet.Hashes) != 2 {
		t.Error(o)
	}
	if o := ops[2]; o.Kind != api.OpDrop || o.Client != 2 || o.Seq != 7 || o.Name != "a" || o.Sheet.Size != 0 {
		t.Error(o)
	}
	for what, e := range map[string]api.Errno{"b": api.ErrThere} {
		n := x.ask(0, put(what, "x", 10, 0, 0))
		x.rounds(4)
		x.answered(what, n, e, 0, 0)
	}
	n = x.ask(0, put("b", "anything", 9, 0, 0))
	x.rounds(4)
	x.answered("asked again", n, api.OK, 4, 1)
	n = x.ask(0, put("c", "x", 8, 0, 0))
	x.rounds(4)
	x.answered("an older one", n, api.ErrOld, 0, 0)
}

// P23.2: the vault's room: what nobody needs gives way, but never a chunk of the same put.
func TestP23_2Quota(t *testing.T) {
	c := conf
	c.Quota = 4000
	x := ruled(t, c)
	x.put(0, "a", 1)
	lead := x.leader(0)
	d := x.drives[lead]
	// The ledger refuses these, and their chunks stay till somebody sweeps: the vault has room for 2^16 + 4000 bytes.
	room := 1<<16 + 4000 - len("data of a")
	for i := range room / 512 {
		n := x.ask(0, put("a", data512(i), 2+i, 0, 0))
		x.deliver()
		x.answered("there", n, api.ErrThere, 0, 0)
	}
	before := len(d.Names("b."))
	data := data512(9999)
	n := x.ask(0, put("z", data, 999, api.ModeSync, 0))
	if after := len(d.Names("b.")); before < 1000 || after != 9 {
		t.Error("no sweep", before, after)
	}
	for i, chunk := range carve.Cut(data) {
		if s, _ := d.Read("b." + sha.Name(sha.Sum(chunk))); s != chunk {
			t.Error("a sweep took a chunk of the put itself", i)
		}
	}
	x.rounds(30)
	x.answered("the last one", n, api.OK, 3, 1)
}

// data512 answers as many bytes, no chunk of which is that of another number's.
func data512(i int) string {
	data := ""
	for k := range 8 {
		data += string([]byte{byte(i), byte(i >> 8), byte(k)}) + long("x", 61)
	}
	return data
}

// P23.2: a put that has no room at all.
func TestP23_2NoRoom(t *testing.T) {
	c := conf
	c.Quota = 1 << 16
	x := ruled(t, c)
	lead := x.leader(0)
	x.letters = nil
	// Nobody agrees on these: their chunks are held, as long as the entries may still be done.
	n := 0
	for i := range 300 {
		if n = x.askAlone(lead, put("n", data512(i), 1+i, 0, 0)); n >= 0 {
			break
		}
	}
	if r, ok := x.reply(n); !ok || r.Err != api.ErrQuota {
		t.Error(r, ok)
	}
	if got := len(x.drives[lead].Names("b.")); got != 2048 {
		t.Error("what is held stays", got)
	}
}

// askAlone asks a leader that nobody hears; when its queue is full it begins to lead anew. The number is answered when there is a reply that tells of no room, else -1.
func (x *net) askAlone(lead int, a api.Ask) int {
	x.t.Helper()
	for {
		number := x.asked
		x.asked++
		x.did(x.nodes[lead].Ask(number, a))
		r, ok := x.reply(number)
		if !ok {
			return -1
		}
		if r.Err != api.ErrQueue {
			return number
		}
		x.anew(lead)
	}
}

// anew lets a leader begin to lead anew, by a vote alone; its entries stay as they are.
func (x *net) anew(lead int) {
	x.t.Helper()
	mate := (lead + 1) % 3
	term := 0
	x.letters = nil
	for x.nodes[lead].Leads() {
		term = termOf(x, lead) + 1
		x.did(x.nodes[lead].Take(letter(x.t, mate, lead, api.Mail{Kind: api.MailVote, Term: term})))
	}
	for !x.nodes[lead].Leads() {
		x.letters = nil
		x.tick(lead)
		if _, mails := read(x.t, x.letters, api.MailAsk); len(mails) > 0 {
			x.did(x.nodes[lead].Take(letter(x.t, mate, lead, api.Mail{Kind: api.MailVote, Term: mails[0].Term, Good: true})))
		}
	}
	x.letters = nil
}

// termOf answers a leader's term, by what it says.
func termOf(x *net, lead int) int {
	_, letters := x.nodes[lead].Tick(0)
	_, mails := read(x.t, letters, api.MailFeed)
	return mails[0].Term
}

// P23.3: letters that are for another one, or none.
func TestP23_3LetGo(t *testing.T) {
	x := ruled(t, conf)
	lead := x.leader(0)
	follower, far := (lead+1)%3, 4
	before := x.nodes[lead].Ledger().Pack()
	blob := api.Mail{Kind: api.MailBlob, Data: "nobody misses it"}
	vote := api.Mail{Kind: api.MailAsk, Term: 1 << 40, Index: 1 << 40, Prev: 1 << 39}
	for i, l := range []api.Letter{
		{From: follower, To: lead}, {From: follower, To: lead, Data: "none"},
		letter(t, follower, follower, vote), letter(t, follower, -1, vote), letter(t, follower, 6, vote),
		letter(t, far, lead, vote), letter(t, lead, lead, vote), letter(t, -1, lead, vote), letter(t, 6, lead, vote), letter(t, 99, lead, vote),
		letter(t, far, lead, api.Mail{Kind: api.MailWhole, At: api.Spot{N: 1, Epoch: 1}}),
		letter(t, far, lead, blob), letter(t, follower, lead, blob),
		letter(t, follower, lead, api.Mail{Kind: api.MailShip, Epoch: 9, Site: 1}),
		letter(t, 6, lead, api.Mail{Kind: api.MailShip, Epoch: 9, Site: 1}),
		letter(t, follower, lead, api.Mail{Kind: api.MailShipped, Epoch: 9}),
		letter(t, follower, lead, api.Mail{Kind: api.MailGrant, Epoch: 9}),
		letter(t, far, lead, api.Mail{Kind: api.MailGrant, Epoch: 9}),
		letter(t, 6, lead, api.Mail{Kind: api.MailClaim, Epoch: 9}),
		letter(t, far, lead, api.Mail{Kind: api.MailClaim, Epoch: 9}),
	} {
		replies, letters := x.nodes[lead].Take(l)
		if len(replies) != 0 || len(letters) != 0 || !x.nodes[lead].Leads() || x.nodes[lead].Ledger().Pack() != before {
			t.Error(i, replies, len(letters))
		}
	}
	if len(x.drives[lead].Names("b.")) != 0 {
		t.Error("a chunk that nobody misses is there")
	}
	if r, _ := x.nodes[lead].Ask(0, api.Ask{Kind: api.AskDrop, Seq: 1, Name: "a"}); len(r) != 0 {
		t.Error("it heard of an epoch", r)
	}
	if r, letters := x.nodes[follower].Take(letter(t, far, follower, api.Mail{Kind: api.MailShip, Epoch: 9, Site: 1})); len(r)+len(letters) != 0 {
		t.Error("a follower meets nobody", r, len(letters))
	}
}

// P23.3: what chunks are asked for goes back; to all but its own site through the bucket.
func TestP23_3Want(t *testing.T) {
	c := conf
	c.Rate, c.Burst = 10, 64
	x := ruled(t, c)
	lead := x.leader(0)
	first, second := long("1", 50), long("2", 14)
	x.put(0, "a", 1)
	x.ask(0, put("b", first, 2, 0, 0))
	x.ask(0, put("c", second, 3, 0, 0))
	x.rounds(30)
	want := func(from int) []api.Letter {
		_, letters := x.nodes[lead].Take(letter(t, from, lead, api.Mail{Kind: api.MailWant, Hashes: []string{sha.Sum(first), sha.Sum("none"), sha.Sum(second), sha.Sum(first)}}))
		return letters
	}
	blobs := func(what string, from int, data ...string) {
		t.Helper()
		letters := want(from)
		if len(letters) != len(data) {
			t.Errorf("%s: %d letters", what, len(letters))
			return
		}
		for i, l := range letters {
			m, _ := mail.Parse(l.Data)
			if l.From != lead || l.To != from || m.Kind != api.MailBlob || m.Data != data[i] {
				t.Error(what, i, l.To, m)
			}
		}
	}
	blobs("its own site", (lead+1)%3, first, second, first)
	blobs("its own site", (lead+1)%3, first, second, first)
	blobs("the other site", 4, first, second)
	blobs("the other site, with nothing left", 4)
	blobs("its own site", (lead+2)%3, first, second, first)
	for range 5 {
		x.nodes[lead].Tick(0)
	}
	blobs("the witness", 6, first)
	blobs("nobody", 99)
	blobs("itself", lead, first, second, first)
}

// P23.3: a chunk that is missed is kept, whoever sends it.
func TestP23_3Blob(t *testing.T) {
	x := ruled(t, conf)
	data := long("a", 64) + long("b", 64)
	x.ask(0, put("a", data, 1, 0, 0))
	x.without(3, api.MailBlob)
	follower := (x.leader(0) + 1) % 3
	n := x.nodes[follower]
	if m := n.Missing(); len(m) != 2 || !slices.Equal(n.Whole().Holes, []int{2}) {
		t.Fatal("misses", len(m), n.Whole())
	}
	for i, from := range []int{99, 5} {
		chunk := carve.Cut(data)[i]
		n.Take(letter(t, from, follower, api.Mail{Kind: api.MailBlob, Data: chunk}))
		if len(n.Missing()) != 1-i {
			t.Error(i, len(n.Missing()))
		}
	}
	if w := n.Whole(); w.At != (api.Spot{N: 2, Epoch: 1}) || len(w.Holes) != 0 {
		t.Error(w)
	}
}

// P23.3 and behind each call: a put is answered when two nodes reported its place, and not as a hole.
func TestP23_3Whole(t *testing.T) {
	x := ruled(t, conf)
	lead := x.leader(0)
	mates := []int{(lead + 1) % 3, (lead + 2) % 3}
	n := x.ask(0, put("a", "data", 1, 0, 0))
	for _, l := range x.letters { // one mate has the entry
		if l.To == mates[0] {
			replies, letters := x.nodes[mates[0]].Take(l)
			x.replies = append(x.replies, replies...)
			for _, back := range letters {
				x.replies = append(x.replies, first(x.nodes[lead].Take(back))...)
			}
		}
	}
	x.letters = nil
	if x.nodes[lead].Ledger().Last() != (api.Spot{N: 2, Epoch: 1}) {
		t.Fatal("not agreed on")
	}
	x.waits("one node alone has the chunk", n)
	whole := func(from int, at api.Spot, holes ...int) {
		x.replies = append(x.replies, first(x.nodes[lead].Take(letter(t, from, lead, api.Mail{Kind: api.MailWhole, At: at, Holes: holes})))...)
	}
	whole(mates[0], api.Spot{N: 2, Epoch: 1}, 2)
	x.waits("a hole", n)
	whole(mates[1], api.Spot{N: 2, Epoch: 2})
	x.waits("another epoch", n)
	whole(mates[0], api.Spot{N: 1, Epoch: 1})
	whole(mates[1], api.Spot{N: 1, Epoch: 1})
	x.waits("less", n)
	whole(4, api.Spot{N: 2, Epoch: 1})
	x.waits("of the other site", n)
	whole(lead, api.Spot{N: 2, Epoch: 1})
	x.waits("itself", n)
	whole(mates[1], api.Spot{N: 2, Epoch: 1})
	x.answered("two of three", n, api.OK, 2, 1)
	// Two reports are enough, also where the third one tells of a place that the ledger hasn't.
	n = x.ask(0, put("b", "other", 2, 0, 0))
	whole(mates[1], api.Spot{N: 9, Epoch: 9})
	for _, l := range x.letters {
		if l.To == mates[0] {
			for _, back := range second(x.nodes[mates[0]].Take(l)) {
				x.replies = append(x.replies, first(x.nodes[lead].Take(back))...)
			}
		}
	}
	x.letters = nil
	x.waits("one report", n)
	whole(mates[0], api.Spot{N: 3, Epoch: 1}, 3)
	x.waits("a hole", n)
	whole(mates[0], api.Spot{N: 3, Epoch: 1})
	x.answered("two reports", n, api.OK, 3, 1)
}

func second(_ []api.Reply, letters []api.Letter) []api.Letter { return letters }

func first(replies []api.Reply, _ []api.Letter) []api.Reply { return replies }

// P23.3: operations go to the other site, and it answers.
func TestP23_3Ship(t *testing.T) {
	x := ruled(t, conf)
	x.put(0, "a", 1)
	lead, far := x.leader(0), x.leader(1)
	if a, b := x.nodes[lead].Ledger(), x.nodes[far].Ledger(); a.Last() != (api.Spot{N: 2, Epoch: 1}) || b.Last() != a.Last() || b.Fence() != 1 || a.Settled() != 2 {
		t.Fatal(a.Last(), b.Last(), a.Settled())
	}
	x.letters = nil
	_, letters := x.nodes[lead].Tick(0)
	to, mails := read(t, letters, api.MailShip)
	if !slices.Equal(to, []int{3, 4, 5}) || mails[0].At != (api.Spot{N: 2, Epoch: 1}) || len(mails[0].Ops) != 0 || mails[0].Epoch != 1 || mails[0].Site != 0 {
		t.Error(to, mails)
	}
	for _, id := range []int{3, 4, 5} {
		_, letters := x.nodes[id].Take(letter(t, lead, id, mails[0]))
		to, mails := read(t, letters, api.MailShipped)
		if id != far && len(letters) != 0 || id == far && (!slices.Equal(to, []int{lead}) || !mails[0].Good || mails[0].At != (api.Spot{N: 2, Epoch: 1}) || mails[0].Whole != mails[0].At) {
			t.Error(id, to, mails)
		}
	}
	_, letters = x.nodes[far].Take(letter(t, 1, far, api.Mail{Kind: api.MailShip, Epoch: 1, At: api.Spot{N: 5, Epoch: 1}}))
	if to, mails := read(t, letters, api.MailShipped); !slices.Equal(to, []int{1}) || mails[0].Good || mails[0].At != (api.Spot{N: 2, Epoch: 1}) {
		t.Error("a hint", to, mails)
	}
	more := api.Mail{Kind: api.MailShip, Epoch: 1, At: api.Spot{N: 2, Epoch: 1}, Ops: []api.Op{{N: 3, Epoch: 1, Kind: api.OpDrop, Seq: 9, Name: "a"}}}
	_, letters = x.nodes[far].Take(letter(t, lead, far, more))
	if to, _ := read(t, letters, api.MailFeed); len(to) != 2 || len(letters) != 2 {
		t.Error("it is agreed on first", len(letters))
	}
	_, letters = x.nodes[far].Take(letter(t, lead, far, more))
	if len(letters) != 0 {
		t.Error("no second one, while an entry isn't done", len(letters))
	}
}

// P23.4: what a tick says, in order.
func TestP23_4Tick(t *testing.T) {
	x := newNet(t, conf)
	replies, letters := x.nodes[4].Tick(0)
	if to, mails := read(t, letters, api.MailWhole); len(replies) != 0 || len(letters) != 2 || !slices.Equal(to, []int{3, 5}) || mails[0].At != (api.Spot{}) {
		t.Error(to, mails)
	}
	_, letters = x.nodes[4].Tick(0)
	kinds := func() (list []int) {
		for _, l := range letters {
			m, _ := mail.Parse(l.Data)
			list = append(list, m.Kind)
		}
		return list
	}
	if !slices.Equal(kinds(), []int{api.MailAsk, api.MailAsk, api.MailWhole, api.MailWhole}) {
		t.Error("it stands", kinds())
	}
	x = ruled(t, conf)
	lead := x.leader(0)
	_, letters = x.nodes[lead].Tick(0)
	if !slices.Equal(kinds(), []int{api.MailFeed, api.MailFeed, api.MailWhole, api.MailWhole, api.MailClaim, api.MailShip, api.MailShip, api.MailShip}) {
		t.Error("the primary site's leader", kinds())
	}
	if to, mails := read(t, letters, api.MailClaim); !slices.Equal(to, []int{6}) || mails[0].Epoch != 0 || mails[0].Site != 0 {
		t.Error(to, mails)
	}
	_, letters = x.nodes[x.leader(1)].Tick(0)
	if !slices.Equal(kinds(), []int{api.MailFeed, api.MailFeed, api.MailWhole, api.MailWhole, api.MailClaim}) {
		t.Error("the other site's leader", kinds())
	}
}

// P23.4: what is missed is asked for, of one node after another.
func TestP23_4Want(t *testing.T) {
	x := ruled(t, conf)
	data := ""
	for i := range 6 {
		data += long(string(rune('a'+i)), 64)
	}
	x.ask(0, put("a", data, 1, 0, 0))
	x.without(3, api.MailBlob)
	follower := (x.leader(0) + 1) % 3
	if len(x.nodes[follower].Missing()) != 6 {
		t.Fatal(len(x.nodes[follower].Missing()))
	}
	var asked [][]int
	for range 20 {
		_, letters := x.nodes[follower].Tick(0)
		to, mails := read(t, letters, api.MailWant)
		if len(to) != 1 {
			t.Fatal(to)
		}
		asked = append(asked, []int{to[0], len(mails[0].Hashes)})
	}
	seen := map[int]int{}
	for i, a := range asked {
		if i > 0 && a[0] == asked[i-1][0] {
			t.Error("asked twice", asked)
		}
		seen[a[1]]++
	}
	if seen[4] == 0 || seen[2] == 0 || len(seen) != 2 {
		t.Error("rows of four", asked)
	}
}

// P23.4: what nobody needs goes with a tick.
func TestP23_4Sweep(t *testing.T) {
	x := ruled(t, conf)
	lead := x.leader(0)
	n := x.put(0, "a", 1)
	x.answered("put", n, api.OK, 2, 1)
	n = x.ask(0, put("a", "refused", 2, 0, 0))
	if len(x.drives[lead].Names("b.")) != 2 {
		t.Error("the chunk of an entry that isn't done is held")
	}
	x.tick(lead)
	if len(x.drives[lead].Names("b.")) != 2 {
		t.Error("the chunk of an entry that isn't done is held")
	}
	x.rounds(3)
	x.answered("there", n, api.ErrThere, 0, 0)
	if len(x.drives[lead].Names("b.")) != 1 {
		t.Error("a chunk that nobody needs")
	}
	n = x.ask(0, api.Ask{Kind: api.AskDrop, Client: 1, Seq: 3, Name: "a"})
	x.rounds(12)
	x.answered("drop", n, api.OK, 3, 1)
	for id := range 6 {
		if len(x.drives[id].Names("b.")) != 0 {
			t.Error(id, "what was dropped at both sites")
		}
	}
}

// P23.5: what can be asked of a node; of none; of one whose power is gone.
func TestP23_5Asked(t *testing.T) {
	x := ruled(t, conf)
	x.put(0, "a", 1)
	n := x.nodes[x.leader(0)]
	l := n.Ledger()
	l.Apply(api.Command{Kind: api.CmdReign, Epoch: 9})
	if n.Ledger().Fence() != 1 {
		t.Error("a copy of the ledger changes the node's")
	}
	if n.Applied() < 3 || !n.Leads() || n.Whole().At != (api.Spot{N: 2, Epoch: 1}) {
		t.Error(n.Applied(), n.Leads(), n.Whole())
	}
	n.Ask(5, api.Ask{Kind: api.AskList})
	if n.Waits() != 1 {
		t.Error(n.Waits())
	}
	x.drives[x.leader(0)].Fuse(0)
	if r, letters := n.Ask(6, api.Ask{Kind: api.AskList}); r != nil || letters != nil {
		t.Error("it says something, though nothing lasts", r, len(letters))
	}
	isNothing(t, n)
	x.drives[0].Crash()
	isNothing(t, n)
	isNothing(t, nil)
}

func isNothing(t *testing.T, n *node.Node) {
	t.Helper()
	for _, f := range []func() ([]api.Reply, []api.Letter){func() ([]api.Reply, []api.Letter) { return n.Ask(0, api.Ask{}) }, func() ([]api.Reply, []api.Letter) { return n.Take(api.Letter{}) }, func() ([]api.Reply, []api.Letter) { return n.Tick(0) }} {
		if replies, letters := f(); replies != nil || letters != nil {
			t.Error(replies, letters)
		}
	}
	if w := n.Whole(); n.Ledger() != nil || n.Applied() != 0 || n.Leads() || w.At != (api.Spot{}) || w.Holes != nil || n.Missing() != nil || n.Waits() != 0 {
		t.Error("nothing answers something")
	}
}
