package lane_test

import (
	"math/rand"
	"slices"
	"testing"

	"redoubt/api"
	"redoubt/deed"
	"redoubt/lane"
	"redoubt/ledger"
	"redoubt/mail"
	"redoubt/sheet"
)

func at(n, epoch int) api.Spot { return api.Spot{N: n, Epoch: epoch} }

func reign(n, epoch, site int) api.Op {
	return api.Op{N: n, Epoch: epoch, Kind: api.OpReign, Site: site}
}

func put(n, epoch, site int) api.Op {
	s, _ := sheet.Make("data")
	return api.Op{N: n, Epoch: epoch, Kind: api.OpPut, Site: site, Client: 2, Seq: n, Name: "n" + string(rune('a'+n)), Sheet: s}
}

// row answers operations with these epochs, of site 0 where they are odd, of site 1 where they are even.
func row(epochs ...int) (list []api.Op) {
	ahead := 0
	for i, e := range epochs {
		site := 1 - e%2
		if e > ahead {
			list = append(list, reign(i+1, e, site))
		} else {
			list = append(list, put(i+1, e, site))
		}
		ahead = e
	}
	return list
}

// with answers a ledger with these operations, and a fence.
func with(t *testing.T, fence int, ops ...api.Op) *ledger.Ledger {
	t.Helper()
	l, _ := ledger.New(1<<16, 64)
	for i, o := range ops {
		after := at(0, 0)
		if i > 0 {
			after = at(i, ops[i-1].Epoch)
		}
		if d := l.Apply(api.Command{Kind: api.CmdShip, Epoch: o.Epoch, Site: o.Site, After: after.N, Since: after.Epoch, Ops: []api.Op{o}}); d.Err != api.OK {
			t.Fatal(d)
		}
	}
	if fence > l.Fence() {
		l.Apply(api.Command{Kind: api.CmdShip, Epoch: fence, Site: 1 - fence%2})
	}
	return l
}

func sameMail(a, b api.Mail) bool {
	return a.Kind == b.Kind && a.Term == b.Term && a.Index == b.Index && a.Prev == b.Prev && a.Commit == b.Commit && a.Good == b.Good && slices.Equal(a.Entries, b.Entries) && a.Data == b.Data && slices.Equal(a.Hashes, b.Hashes) && a.Epoch == b.Epoch && a.Site == b.Site && a.At == b.At && a.Whole == b.Whole && slices.Equal(a.Holes, b.Holes) && deed.PackOps(a.Ops...) == deed.PackOps(b.Ops...)
}

func made(t *testing.T, epoch, site, n int) *lane.Lane {
	t.Helper()
	l, e := lane.New(epoch, site, n)
	if e != api.OK || l == nil {
		t.Fatal("New", e)
	}
	return l
}

func stands(t *testing.T, what string, l *lane.Lane, next int, mark, whole api.Spot, holes ...int) {
	t.Helper()
	if w := l.Whole(); l.Next() != next || l.Mark() != mark || w.At != whole || !slices.Equal(w.Holes, holes) {
		t.Errorf("%s: next %d, mark %v, whole %v", what, l.Next(), l.Mark(), w)
	}
}

// P18.1: which lanes may be.
func TestP18_1New(t *testing.T) {
	for _, x := range []struct {
		epoch, site, n int
		e              api.Errno
	}{{1, 0, 0, api.OK}, {16, 1, 80, api.OK}, {0, 0, 0, api.ErrArg}, {17, 0, 0, api.ErrArg}, {-1, 0, 0, api.ErrArg}, {1, -1, 0, api.ErrArg}, {1, 2, 0, api.ErrArg}, {1, 0, -1, api.ErrArg}, {1, 0, 81, api.ErrArg}} {
		l, e := lane.New(x.epoch, x.site, x.n)
		if e != x.e || (l != nil) != (e == api.OK) {
			t.Error(x, e)
		}
		if e == api.OK {
			stands(t, "new", l, x.n, at(0, 0), at(0, 0))
		}
	}
}

// P18.2: what goes to the other site.
func TestP18_2Offer(t *testing.T) {
	ops := row(1, 1, 1, 1, 1, 1, 1, 1, 1, 1, 1, 3)
	for _, x := range []struct {
		next, count int
		at          api.Spot
		ops         []api.Op
	}{{0, 12, at(0, 0), ops[:8]}, {1, 12, at(1, 1), ops[1:9]}, {4, 12, at(4, 1), ops[4:]}, {5, 12, at(5, 1), ops[5:]}, {12, 12, at(12, 3), nil}, {80, 12, at(12, 3), nil}, {3, 2, at(2, 1), nil}, {3, 0, at(0, 0), nil}, {0, 0, at(0, 0), nil}, {0, 3, at(0, 0), ops[:3]}} {
		l := made(t, 3, 1, x.next)
		want := api.Mail{Kind: api.MailShip, Epoch: 3, Site: 1, At: x.at, Ops: x.ops}
		if m := l.Offer(ops[:x.count]); !sameMail(m, want) {
			t.Errorf("next %d of %d: %v", x.next, x.count, m)
		}
		if l.Next() != x.next {
			t.Error("an offer changes something")
		}
	}
}

func shipped(epoch int, good bool, place, whole api.Spot, holes ...int) api.Mail {
	return api.Mail{Kind: api.MailShipped, Epoch: epoch, Good: good, At: place, Whole: whole, Holes: holes}
}

// P18.3: what is no answer, or of another epoch.
func TestP18_3None(t *testing.T) {
	ops := row(1, 1, 3, 3)
	l := made(t, 3, 0, 2)
	for _, m := range []api.Mail{{}, {Kind: api.MailShip, Epoch: 3}, {Kind: api.MailShipped}, {Kind: api.MailShipped, Epoch: 17}, {Kind: api.MailGrant, Epoch: 3}, {Kind: api.MailShipped, Epoch: 3, Site: 1, Good: true, At: at(4, 3)}, {Kind: api.MailShipped, Epoch: 3, Good: true, At: at(4, 3), Holes: []int{1}}} {
		if e := l.Take(m, ops); e != 0 {
			t.Error(m, e)
		}
	}
	for _, epoch := range []int{1, 2, 4, 16} {
		if e := l.Take(shipped(epoch, true, at(4, 3), at(4, 3)), ops); e != epoch {
			t.Error(epoch, e)
		}
		if e := l.Take(shipped(epoch, false, at(0, 0), at(0, 0)), ops); e != epoch {
			t.Error(epoch, e)
		}
	}
	stands(t, "as it was", l, 2, at(0, 0), at(0, 0))
}

// P18.3: what is good: the mark, and how far chunks are.
func TestP18_3Good(t *testing.T) {
	ops := row(1, 1, 3, 3, 3)
	l := made(t, 3, 0, 3)
	take := func(what string, m api.Mail, next int, mark, whole api.Spot, holes ...int) {
		t.Helper()
		if e := l.Take(m, ops); e != 3 {
			t.Error(what, e)
		}
		stands(t, what, l, next, mark, whole, holes...)
	}
	take("nothing", shipped(3, true, at(0, 0), at(0, 0)), 3, at(0, 0), at(0, 0))
	take("less than next", shipped(3, true, at(2, 1), at(0, 0)), 3, at(2, 1), at(0, 0))
	take("chunks", shipped(3, true, at(2, 1), at(2, 1), 2), 3, at(2, 1), at(2, 1), 2)
	take("no such place, but chunks", shipped(3, true, at(4, 2), at(3, 3)), 3, at(2, 1), at(3, 3))
	take("as far, other holes", shipped(3, true, at(1, 1), at(3, 3), 1, 3), 3, at(2, 1), at(3, 3), 1, 3)
	take("chunks less far", shipped(3, true, at(2, 1), at(2, 1)), 3, at(2, 1), at(3, 3), 1, 3)
	take("chunks of no such place", shipped(3, true, at(4, 3), at(4, 2)), 4, at(4, 3), at(3, 3), 1, 3)
	take("a mark doesn't fall", shipped(3, true, at(3, 3), at(0, 0)), 4, at(4, 3), at(3, 3), 1, 3)
	take("above all", shipped(3, true, at(6, 3), at(6, 3)), 4, at(4, 3), at(3, 3), 1, 3)
	take("all", shipped(3, true, at(5, 3), at(5, 3)), 5, at(5, 3), at(5, 3))
}

// P18.3: what isn't good: it looks further ahead.
func TestP18_3Back(t *testing.T) {
	ops := row(1, 1, 3, 3, 3)
	for _, x := range []struct {
		next int
		mark api.Spot
		hint api.Spot
		want int
	}{{5, at(0, 0), at(4, 3), 4}, {5, at(0, 0), at(4, 2), 2}, {5, at(0, 0), at(1, 1), 1}, {5, at(0, 0), at(0, 0), 0}, {5, at(3, 3), at(1, 1), 3}, {5, at(3, 3), at(4, 3), 4}, {3, at(0, 0), at(5, 3), 3}, {2, at(0, 0), at(80, 16), 2}, {5, at(0, 0), at(80, 16), 5}} {
		l := made(t, 3, 0, x.next)
		if x.mark.N > 0 {
			l.Take(shipped(3, true, x.mark, at(0, 0)), ops)
		}
		if e := l.Take(shipped(3, false, x.hint, at(0, 0)), ops); e != 3 {
			t.Error(e)
		}
		stands(t, "back", l, x.want, x.mark, at(0, 0))
	}
}

// P18.4: what a leader does with what comes.
func TestP18_4Meet(t *testing.T) {
	ops := row(1, 1, 3, 3)
	ship := func(epoch, site int, place api.Spot, list ...api.Op) api.Mail {
		return api.Mail{Kind: api.MailShip, Epoch: epoch, Site: site, At: place, Ops: list}
	}
	none := api.Reach{}
	holes := api.Reach{At: at(3, 3), Holes: []int{2, 3}}
	for i, x := range []struct {
		fence  int
		m      api.Mail
		site   api.Reach
		answer api.Mail
		what   int
	}{
		{3, api.Mail{}, none, api.Mail{}, lane.Nothing},
		{3, ship(0, 0, at(4, 3)), none, api.Mail{}, lane.Nothing},
		{3, shipped(3, true, at(4, 3), at(0, 0)), none, api.Mail{}, lane.Nothing},
		{3, ship(3, 1, at(4, 3)), none, api.Mail{}, lane.Nothing},
		{5, ship(3, 1, at(4, 3)), none, api.Mail{}, lane.Nothing},
		{3, ship(2, 1, at(2, 1)), none, shipped(3, false, at(0, 0), at(0, 0)), lane.Answer},
		{5, ship(3, 0, at(4, 3)), none, shipped(5, false, at(0, 0), at(0, 0)), lane.Answer},
		{3, ship(3, 0, at(5, 3)), none, shipped(3, false, at(4, 3), at(0, 0)), lane.Answer},
		{3, ship(3, 0, at(3, 1)), holes, shipped(3, false, at(2, 1), at(0, 0)), lane.Answer},
		{5, ship(5, 1, at(4, 4)), holes, shipped(5, false, at(3, 3), at(0, 0)), lane.Answer},
		{3, ship(3, 0, at(4, 3)), none, shipped(3, true, at(4, 3), at(0, 0)), lane.Answer},
		{3, ship(3, 0, at(0, 0)), holes, shipped(3, true, at(0, 0), at(3, 3), 2, 3), lane.Answer},
		{3, ship(3, 0, at(2, 1), ops[2]), holes, shipped(3, true, at(3, 3), at(3, 3), 2, 3), lane.Answer},
		{3, ship(3, 0, at(2, 1), ops[2:]...), api.Reach{At: at(4, 2)}, shipped(3, true, at(4, 3), at(0, 0)), lane.Answer},
		{3, ship(3, 0, at(4, 3)), api.Reach{At: at(3, 3), Holes: []int{4}}, shipped(3, true, at(4, 3), at(0, 0)), lane.Answer},
		{3, ship(3, 0, at(4, 3)), api.Reach{At: at(3, 3), Holes: []int{2, 2}}, shipped(3, true, at(4, 3), at(0, 0)), lane.Answer},
		{5, ship(5, 1, at(4, 3)), none, shipped(5, true, at(4, 3), at(0, 0)), lane.Answer},
		{3, ship(3, 0, at(4, 3), put(5, 3, 0)), holes, api.Mail{}, lane.Propose},
		{3, ship(3, 0, at(3, 3), ops[3], put(5, 3, 0)), holes, api.Mail{}, lane.Propose},
		{3, ship(5, 0, at(4, 3)), holes, api.Mail{}, lane.Propose},
		{3, ship(5, 0, at(9, 4)), holes, api.Mail{}, lane.Propose},
		{3, ship(5, 1, at(2, 1), reign(3, 5, 1)), holes, api.Mail{}, lane.Propose},
	} {
		l := with(t, x.fence, ops...)
		before := l.Pack()
		answer, c, what := lane.Meet(l, x.m, x.site)
		want := api.Command{}
		if x.what == lane.Propose {
			want = api.Command{Kind: api.CmdShip, Epoch: x.m.Epoch, Site: x.m.Site, After: x.m.At.N, Since: x.m.At.Epoch, Ops: x.m.Ops}
		}
		if what != x.what || !sameMail(answer, x.answer) || deed.Pack(c) != deed.Pack(want) {
			t.Errorf("%d: %d, %v, %v", i, what, answer, c)
		}
		if l.Pack() != before {
			t.Error(i, "the ledger changed")
		}
	}
	if answer, c, what := lane.Meet(nil, ship(3, 0, at(0, 0)), none); what != lane.Nothing || !sameMail(answer, api.Mail{}) || deed.Pack(c) != deed.Pack(api.Command{}) {
		t.Error("no ledger")
	}
	if lane.Nothing != 0 || lane.Answer != 1 || lane.Propose != 2 {
		t.Error("the numbers of what is to be done")
	}
}

// P18.5: a copy goes its own way; no lane.
func TestP18_5Copy(t *testing.T) {
	ops := row(1, 1, 3, 3)
	l := made(t, 3, 1, 2)
	l.Take(shipped(3, true, at(2, 1), at(2, 1), 1, 2), ops)
	c := l.Copy()
	stands(t, "copy", c, 2, at(2, 1), at(2, 1), 1, 2)
	c.Take(shipped(3, true, at(4, 3), at(3, 3), 1), ops)
	stands(t, "first", l, 2, at(2, 1), at(2, 1), 1, 2)
	l.Take(shipped(3, true, at(3, 3), at(2, 1)), ops)
	stands(t, "copy", c, 4, at(4, 3), at(3, 3), 1)
	if m := c.Offer(ops); m.Epoch != 3 || m.Site != 1 {
		t.Error(m)
	}
	var none *lane.Lane
	if none.Take(shipped(3, true, at(4, 3), at(3, 3)), ops) != 0 || none.Next() != 0 || none.Mark() != at(0, 0) || none.Whole().At != at(0, 0) || none.Whole().Holes != nil || none.Copy() != nil || !sameMail(none.Offer(ops), api.Mail{}) {
		t.Error("a nil lane answers something")
	}
}

// P18.6 and the chapter's example.
func TestP18_6Example(t *testing.T) {
	l := made(t, 1, 0, 2)
	ops := []api.Op{reign(1, 1, 0), put(2, 1, 0)}
	other, _ := ledger.New(100, 64)
	m := l.Offer(ops)
	if m.At != at(2, 1) || len(m.Ops) != 0 {
		t.Error(m)
	}
	_, c, what := lane.Meet(other, m, api.Reach{})
	if d := other.Apply(c); what != lane.Propose || d.Err != api.ErrGap || other.Fence() != 1 {
		t.Error(what, d)
	}
	answer, _, what := lane.Meet(other, m, api.Reach{})
	if what != lane.Answer || answer.Good || answer.At != at(0, 0) || l.Take(answer, ops) != 1 || l.Next() != 0 {
		t.Error(what, answer, l.Next())
	}
	if m := l.Offer(ops); len(m.Ops) != 2 {
		t.Error(m)
	}
}

// P18.6: who holds the greatest epoch makes both the same, and its mark is always what the other site had, and never falls.
func TestP18_6Both(t *testing.T) {
	rnd := rand.New(rand.NewSource(1))
	for range 300 {
		l := [2]*ledger.Ledger{with(t, 0), with(t, 0)}
		var lanes [2]*lane.Lane
		epoch, holder, seq := 0, 0, 0
		reigns := func(site int) {
			epoch++
			holder = site
			l[site].Apply(api.Command{Kind: api.CmdReign, Epoch: epoch, Site: site})
			lanes[site] = made(t, epoch, site, len(l[site].Ops()))
		}
		send := func(site int) {
			if lanes[site] == nil || l[site].Fence() != l[site].Holder().Epoch || l[site].Holder().Site != site {
				return
			}
			m := lanes[site].Offer(l[site].Ops())
			if mail.Check(m) != api.OK {
				t.Fatal("an offer is no mail", m)
			}
			last := l[1-site].Last()
			answer, c, what := lane.Meet(l[1-site], m, api.Reach{At: last})
			if what == lane.Propose {
				l[1-site].Apply(c)
			}
			if what == lane.Answer && rnd.Intn(3) > 0 {
				before := lanes[site].Mark()
				lanes[site].Take(answer, l[site].Ops())
				now := lanes[site].Mark()
				has := slices.ContainsFunc(l[1-site].Ops(), func(o api.Op) bool { return at(o.N, o.Epoch) == now })
				if now.N < before.N || now.N > before.N && !has {
					t.Fatal("the mark", before, now)
				}
			}
		}
		reigns(0)
		for range 40 {
			switch rnd.Intn(6) {
			case 0:
				if epoch < 10 {
					reigns(rnd.Intn(2))
				}
			case 1, 2:
				site := rnd.Intn(2)
				h := l[site].Holder()
				if h.Site != site {
					continue
				}
				seq++
				l[site].Apply(api.Command{Kind: api.CmdDo, Epoch: h.Epoch, Site: h.Site, Op: api.Op{Kind: api.OpPut, Client: site, Seq: seq, Name: "n" + string(rune('0'+seq))}})
			default:
				send(rnd.Intn(2))
			}
		}
		for range 60 {
			send(holder)
		}
		ops := l[holder].Ops()
		if deed.PackOps(ops...) != deed.PackOps(l[1-holder].Ops()...) {
			t.Fatalf("%v\n%v", ops, l[1-holder].Ops())
		}
		if lanes[holder].Mark() != l[holder].Last() {
			t.Fatal("the mark isn't the last one", lanes[holder].Mark(), l[holder].Last())
		}
	}
}

// Rule 5: nothing that is handed in is kept, and what is answered is new memory.
func TestRule5Memory(t *testing.T) {
	ops := row(1, 1, 3, 3)
	want := deed.PackOps(ops...)
	l := made(t, 3, 0, 0)
	l.Offer(ops).Ops[1].Sheet.Hashes[0] = "changed"
	m := shipped(3, true, at(2, 1), at(2, 1), 1, 2)
	l.Take(m, ops)
	m.Holes[0] = 9
	l.Whole().Holes[1] = 9
	stands(t, "whole", l, 2, at(2, 1), at(2, 1), 1, 2)
	site := api.Reach{At: at(3, 3), Holes: []int{2}}
	led := with(t, 3, ops...)
	answer, _, _ := lane.Meet(led, api.Mail{Kind: api.MailShip, Epoch: 3, At: at(4, 3)}, site)
	answer.Holes[0] = 9
	more := []api.Op{put(5, 3, 0)}
	_, c, _ := lane.Meet(led, api.Mail{Kind: api.MailShip, Epoch: 3, At: at(4, 3), Ops: more}, site)
	c.Ops[0].Sheet.Hashes[0] = "changed"
	if site.Holes[0] != 2 || deed.PackOps(ops...) != want || more[0].Sheet.Hashes[0] == "changed" {
		t.Error("something changed")
	}
}
