package keep_test

import (
	"math/rand"
	"slices"
	"strconv"
	"strings"
	"testing"

	"redoubt/api"
	"redoubt/disk"
	"redoubt/keep"
	"redoubt/pack"
	"redoubt/poll"
	"redoubt/wal"
)

func opened(t *testing.T, d *disk.Disk) (*keep.Keep, api.Kept) {
	t.Helper()
	k, x, e := keep.Open(d)
	if e != api.OK || k == nil {
		t.Fatal("Open", e)
	}
	return k, x
}

func same(a, b api.Kept) bool {
	return a.Term == b.Term && a.Vote == b.Vote && a.Base == b.Base && a.BaseTerm == b.BaseTerm && a.Snap == b.Snap && slices.Equal(a.Entries, b.Entries)
}

func entry(term int, data string) api.Entry { return api.Entry{Term: term, Data: data} }

func termRecord(term, vote int) string { return pack.Nums(1, term, vote) }

func goneRecord(from int) string { return pack.Nums(2, from) }

func entryRecord(term int, data string) string { return pack.Nums(3, term) + pack.Text(data) }

func baseOf(x api.Kept) string {
	s := pack.Nums(x.Term, x.Vote, x.Base, x.BaseTerm, len(x.Entries)) + pack.Text(x.Snap)
	for _, e := range x.Entries {
		s += pack.Nums(e.Term) + pack.Text(e.Data)
	}
	return s
}

// logged answers a drive whose log has that base (none: no Lay) and these records.
func logged(t *testing.T, base string, records ...string) *disk.Disk {
	t.Helper()
	d := disk.New()
	l, _, _, _ := wal.Open(d)
	if base != "" && l.Lay(base) != api.OK {
		t.Fatal("Lay")
	}
	for _, record := range records {
		if l.Append(record) != api.OK {
			t.Fatal("Append")
		}
	}
	return d
}

// logOf answers what the log of a drive says.
func logOf(t *testing.T, d *disk.Disk) (string, []string) {
	t.Helper()
	_, base, records, e := wal.Open(d.Copy())
	if e != api.OK {
		t.Fatal(e)
	}
	return base, records
}

// P14.1: what a drive has kept: its base, and what the records say behind it.
func TestP14_1Open(t *testing.T) {
	base := api.Kept{Term: 4, Vote: 2, Base: 5, BaseTerm: 3, Snap: "snap", Entries: []api.Entry{entry(3, "a"), entry(4, "")}}
	for i, c := range []struct {
		base    string
		records []string
		want    api.Kept
	}{
		{"", nil, api.Kept{Vote: -1}},
		{baseOf(base), nil, base},
		{baseOf(api.Kept{Vote: -1}), nil, api.Kept{Vote: -1}},
		{"", []string{termRecord(1, 0)}, api.Kept{Term: 1, Vote: 0}},
		{"", []string{termRecord(1, 0), termRecord(2, -1)}, api.Kept{Term: 2, Vote: -1}},
		{"", []string{goneRecord(1), entryRecord(1, "x"), entryRecord(1, "y")}, api.Kept{Vote: -1, Entries: []api.Entry{entry(1, "x"), entry(1, "y")}}},
		{"", []string{entryRecord(1, "x"), entryRecord(1, "y"), goneRecord(2), entryRecord(2, "z")}, api.Kept{Vote: -1, Entries: []api.Entry{entry(1, "x"), entry(2, "z")}}},
		{"", []string{entryRecord(1, "x"), goneRecord(2)}, api.Kept{Vote: -1, Entries: []api.Entry{entry(1, "x")}}},
		{baseOf(base), []string{goneRecord(8), entryRecord(5, "b")}, api.Kept{Term: 4, Vote: 2, Base: 5, BaseTerm: 3, Snap: "snap", Entries: []api.Entry{entry(3, "a"), entry(4, ""), entry(5, "b")}}},
		{baseOf(base), []string{goneRecord(7), termRecord(6, 1)}, api.Kept{Term: 6, Vote: 1, Base: 5, BaseTerm: 3, Snap: "snap", Entries: []api.Entry{entry(3, "a")}}},
		{baseOf(base), []string{goneRecord(6)}, api.Kept{Term: 4, Vote: 2, Base: 5, BaseTerm: 3, Snap: "snap"}},
	} {
		k, x := opened(t, logged(t, c.base, c.records...))
		if !same(x, c.want) || k.Records() != len(c.records) {
			t.Errorf("%d: %+v, %d records", i, x, k.Records())
		}
	}
}

// P14.1: bases and records that are none, or can't be.
func TestP14_1Form(t *testing.T) {
	base := baseOf(api.Kept{Term: 4, Vote: 2, Base: 5, BaseTerm: 3, Snap: "snap", Entries: []api.Entry{entry(3, "a")}})
	for i, b := range []string{"x", base[:len(base)-1], base + "\x00", pack.Nums(0, 0, 0, 0, 5) + pack.Text(""), pack.Nums(0, 0, 0, 0, -1) + pack.Text(""), pack.Nums(0, 0, 0, 0)} {
		if k, x, e := keep.Open(logged(t, b)); k != nil || e != api.ErrForm || !same(x, api.Kept{}) {
			t.Error("base", i, e)
		}
	}
	for i, r := range []string{"", "\x00", "\x80", pack.Nums(4, 1, 1), pack.Nums(1), pack.Nums(1, 1), pack.Nums(1, 1, 1, 1), pack.Nums(2), pack.Nums(2, 6, 0), pack.Nums(3, 1), pack.Nums(3, 1) + "\x04a", entryRecord(1, "a") + "\x00", goneRecord(5), goneRecord(4), goneRecord(0), goneRecord(-1), goneRecord(8), goneRecord(1 << 62), goneRecord(-1 << 63)} {
		for _, list := range [][]string{{r}, {termRecord(1, 1), r, termRecord(2, 1)}} {
			if k, x, e := keep.Open(logged(t, base, list...)); k != nil || e != api.ErrForm || !same(x, api.Kept{}) {
				t.Error("record", i, e)
			}
		}
	}
	for _, r := range []string{goneRecord(0), goneRecord(2), goneRecord(-1)} {
		if _, _, e := keep.Open(logged(t, "", r)); e != api.ErrForm {
			t.Error("without a base", e)
		}
	}
}

// P14.1: the errors of the log.
func TestP14_1Errors(t *testing.T) {
	if k, x, e := keep.Open(nil); k != nil || e != api.ErrNil || !same(x, api.Kept{}) {
		t.Error(e)
	}
	d := disk.New()
	d.Fuse(0)
	d.Append("x", "")
	if k, x, e := keep.Open(d); k != nil || e != api.ErrDown || !same(x, api.Kept{}) {
		t.Error(e)
	}
}

// P14.2: records, in order, in groups of at most eight.
func TestP14_2Save(t *testing.T) {
	d := disk.New()
	k, _ := opened(t, d)
	for _, c := range []struct {
		s       api.Save
		records []string
		steps   int
	}{
		{api.Save{Term: 1, Vote: 0, From: 1, Entries: []api.Entry{entry(1, "x")}}, []string{termRecord(1, 0), goneRecord(1), entryRecord(1, "x")}, 2},
		{api.Save{Term: 2, Vote: -1}, []string{termRecord(2, -1)}, 2},
		{api.Save{Term: 2, Vote: -1, From: 2}, []string{termRecord(2, -1), goneRecord(2)}, 2},
		{api.Save{}, []string{termRecord(0, 0)}, 2},
		{api.Save{Term: 3, Vote: 1, From: 2, Entries: []api.Entry{entry(2, "1"), entry(2, "2"), entry(2, "3"), entry(2, "4"), entry(2, "5"), entry(3, "6")}}, []string{termRecord(3, 1), goneRecord(2), entryRecord(2, "1"), entryRecord(2, "2"), entryRecord(2, "3"), entryRecord(2, "4"), entryRecord(2, "5"), entryRecord(3, "6")}, 2},
		{api.Save{Term: 3, Vote: 1, Entries: []api.Entry{entry(3, "1"), entry(3, "2"), entry(3, "3"), entry(3, "4"), entry(3, "5"), entry(3, "6"), entry(3, "7"), entry(3, "8")}}, []string{termRecord(3, 1), entryRecord(3, "1"), entryRecord(3, "2"), entryRecord(3, "3"), entryRecord(3, "4"), entryRecord(3, "5"), entryRecord(3, "6"), entryRecord(3, "7"), entryRecord(3, "8")}, 4},
	} {
		_, before := logOf(t, d)
		steps := d.Steps()
		if e := k.Save(c.s); e != api.OK {
			t.Fatal(e)
		}
		_, after := logOf(t, d)
		if !slices.Equal(after, append(before, c.records...)) || d.Steps()-steps != c.steps || k.Records() != len(after) {
			t.Errorf("%+v: %d records, %d steps", c.s, len(after)-len(before), d.Steps()-steps)
		}
	}
	want := api.Kept{Term: 3, Vote: 1, Entries: []api.Entry{entry(1, "x"), entry(2, "1"), entry(2, "2"), entry(2, "3"), entry(2, "4"), entry(2, "5"), entry(3, "6"), entry(3, "1"), entry(3, "2"), entry(3, "3"), entry(3, "4"), entry(3, "5"), entry(3, "6"), entry(3, "7"), entry(3, "8")}}
	if _, x := opened(t, d); !same(x, want) {
		t.Errorf("%+v", x)
	}
}

// P14.2: an entry that is too long for a record; what was put of earlier groups stays.
func TestP14_2Long(t *testing.T) {
	d := disk.New()
	k, _ := opened(t, d)
	long := entry(1, strings.Repeat("l", api.MaxRecord))
	if e := k.Save(api.Save{Term: 1, Vote: -1, From: 1, Entries: []api.Entry{entry(1, "x"), long}}); e != api.ErrLong || k.Records() != 0 || d.Steps() != 0 {
		t.Error(e, k.Records())
	}
	list := []api.Entry{entry(1, "1"), entry(1, "2"), entry(1, "3"), entry(1, "4"), entry(1, "5"), entry(1, "6"), entry(1, "7"), long}
	if e := k.Save(api.Save{Term: 1, Vote: -1, From: 1, Entries: list}); e != api.ErrLong || k.Records() != 8 {
		t.Error(e, k.Records())
	}
	if k, x := opened(t, d); !same(x, api.Kept{Term: 1, Vote: -1, Entries: list[:6]}) || k.Records() != 8 {
		t.Errorf("%+v", x)
	}
	for fuse := range 4 {
		d := disk.New()
		k, _ := opened(t, d)
		d.Fuse(fuse)
		if e := k.Save(api.Save{Term: 1, Vote: -1, From: 1, Entries: list[:7]}); e != api.ErrDown {
			t.Error(fuse, e)
		}
	}
}

// P14.3: all of it, laid anew; how many records lie behind.
func TestP14_3Lay(t *testing.T) {
	d := disk.New()
	k, _ := opened(t, d)
	if k.Records() != 0 {
		t.Error(k.Records())
	}
	k.Save(api.Save{Term: 1, Vote: 0, From: 1, Entries: []api.Entry{entry(1, "x")}})
	for _, x := range []api.Kept{{Vote: -1}, {Term: 4, Vote: 2, Base: 5, BaseTerm: 3, Snap: "snap", Entries: []api.Entry{entry(3, "a"), entry(4, "")}}, {Term: 1 << 40, Vote: -1, Base: 1 << 40, BaseTerm: 7, Snap: strings.Repeat("s", 100000)}} {
		if e := k.Lay(x); e != api.OK || k.Records() != 0 {
			t.Error(e, k.Records())
		}
		if base, records := logOf(t, d); base != baseOf(x) || len(records) != 0 {
			t.Errorf("base %.40x", base)
		}
		k.Save(api.Save{Term: 9, Vote: 1})
		if k.Records() != 1 {
			t.Error(k.Records())
		}
		again, got := opened(t, d)
		x.Term, x.Vote = 9, 1
		if !same(got, x) || again.Records() != 1 {
			t.Errorf("%+v", got)
		}
	}
	if e := k.Lay(api.Kept{Snap: strings.Repeat("s", api.MaxBase)}); e != api.ErrLong || k.Records() != 1 {
		t.Error(e, k.Records())
	}
	d.Fuse(0)
	if e := k.Lay(api.Kept{}); e != api.ErrDown {
		t.Error(e)
	}
}

// P14.4: nothing is kept by none.
func TestP14_4Nil(t *testing.T) {
	var k *keep.Keep
	if k.Save(api.Save{}) != api.ErrNil || k.Lay(api.Kept{}) != api.ErrNil || k.Records() != 0 {
		t.Error("a nil Keep does something")
	}
}

// after tells what is kept when the first n of a save's records are put.
func after(x api.Kept, s api.Save, n int) api.Kept {
	x.Entries = slices.Clone(x.Entries)
	if n > 0 {
		x.Term, x.Vote = s.Term, s.Vote
		n--
	}
	if s.From > 0 && n > 0 {
		x.Entries = x.Entries[:s.From-x.Base-1]
		n--
	}
	x.Entries = append(x.Entries, s.Entries[:min(n, len(s.Entries))]...)
	return x
}

// P14.5: wherever the power goes, what is found is what was kept, and perhaps a part of what was under way.
func TestP14_5Power(t *testing.T) {
	rnd := rand.New(rand.NewSource(1))
	for range 300 {
		d := disk.New()
		known := api.Kept{Vote: -1}
		for range 10 {
			k, x := opened(t, d)
			if !same(x, known) {
				t.Fatalf("opened again: %+v, not %+v", x, known)
			}
			d.Fuse(rnd.Intn(10))
			may := []api.Kept{known}
			for {
				if rnd.Intn(4) == 0 && len(known.Entries) > 0 {
					next := known
					next.Base, next.BaseTerm, next.Snap, next.Entries = known.Base+1, known.Entries[0].Term, "snap", known.Entries[1:]
					if k.Lay(next) != api.OK {
						may = []api.Kept{known, next}
						break
					}
					known = next
					continue
				}
				s := api.Save{Term: known.Term + 1, Vote: rnd.Intn(4) - 1}
				if rnd.Intn(3) > 0 {
					s.From = known.Base + 1 + rnd.Intn(len(known.Entries)+1)
					for range rnd.Intn(10) {
						s.Entries = append(s.Entries, entry(s.Term, strings.Repeat(strconv.Itoa(s.Term), rnd.Intn(60))))
					}
				}
				if k.Save(s) != api.OK {
					may = nil
					for n := range len(s.Entries) + 3 {
						may = append(may, after(known, s, n))
					}
					break
				}
				known = after(known, s, len(s.Entries)+2)
			}
			d.Crash(rnd.Intn(400), rnd.Intn(3000))
			_, x = opened(t, d)
			if !slices.ContainsFunc(may, func(m api.Kept) bool { return same(m, x) }) {
				t.Fatalf("found %+v, known %+v", x, known)
			}
			known = x
		}
	}
}

// node is one of a site whose power may go at any step of its drive.
type node struct {
	d *disk.Disk
	k *keep.Keep
	p *poll.Poll
	b int
}

func (n *node) open(t *testing.T, me int) {
	k, x, e := keep.Open(n.d)
	if e != api.OK {
		t.Fatal(e)
	}
	p, e := poll.New(api.Conf{Base: 2, Spread: 3}, me, x)
	if e != api.OK {
		t.Fatal(e)
	}
	n.k, n.p, n.b = k, p, x.Base
}

// lasts makes last what must, and tells whether the power outlasted it.
func (n *node) lasts() bool {
	s, touched := n.p.Save()
	if x := n.p.Kept(); x.Base != n.b {
		n.b = x.Base
		return n.k.Lay(x) == api.OK
	}
	return !touched || n.k.Save(s) == api.OK
}

// P14.5: three nodes that say nothing ahead of what must last keep P13.7, wherever each one's power goes.
func TestP14_5Site(t *testing.T) {
	led := 0
	for seed := range 40 {
		rnd := rand.New(rand.NewSource(int64(seed)))
		leaders, agreed := map[int]int{}, map[int]api.Entry{}
		nodes := [3]*node{}
		for i := range nodes {
			nodes[i] = &node{d: disk.New()}
			nodes[i].open(t, i)
		}
		type letter struct {
			from int
			s    api.Send
		}
		var mails []letter
		for range 1500 {
			i := rnd.Intn(3)
			n := nodes[i]
			var sends []api.Send
			switch x := rnd.Intn(20); {
			case x < 5:
				sends = n.p.Tick(rnd.Intn(9))
			case x == 5:
				_, sends, _ = n.p.Propose(strconv.Itoa(rnd.Int()))
			case x == 6:
				n.d.Fuse(rnd.Intn(5))
			case x == 7 && n.p.Commit() > n.b:
				n.p.Compact(n.p.Commit(), "s")
			case len(mails) > 0:
				at := rnd.Intn(len(mails))
				l := mails[at]
				if rnd.Intn(8) > 0 {
					mails = slices.Delete(mails, at, at+1)
				}
				i = l.s.To
				n = nodes[i]
				sends = n.p.Take(l.from, l.s.Mail)
			}
			if !n.lasts() {
				n.d.Crash(rnd.Intn(40))
				n.open(t, i)
				continue
			}
			for _, s := range sends {
				mails = append(mails, letter{i, s})
			}
			term := n.p.Kept().Term
			if n.p.Role() == api.Leader {
				if other, ok := leaders[term]; ok && other != i {
					t.Fatalf("nodes %d and %d lead in term %d", i, other, term)
				}
				leaders[term] = i
			}
			for at := n.b + 1; at <= n.p.Commit(); at++ {
				e, _ := n.p.Entry(at)
				if other, ok := agreed[at]; ok && other != e {
					t.Fatalf("entry %d: %v and %v", at, e, other)
				}
				agreed[at] = e
			}
			if len(mails) > 40 {
				mails = mails[20:]
			}
		}
		led += len(leaders)
	}
	if led < 80 {
		t.Error("nothing much happened", led)
	}
}
