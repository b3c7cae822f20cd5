package poll_test

import (
	"slices"
	"strings"
	"testing"

	"redoubt/api"
	"redoubt/poll"
)

var conf = api.Conf{Base: 2, Spread: 3}

func made(t *testing.T, me int, k api.Kept) *poll.Poll {
	t.Helper()
	p, e := poll.New(conf, me, k)
	if e != api.OK || p == nil {
		t.Fatal("New", e)
	}
	return p
}

func fresh(t *testing.T, me int) *poll.Poll {
	t.Helper()
	return made(t, me, api.Kept{Vote: -1})
}

func entries(terms ...int) (list []api.Entry) {
	for i, term := range terms {
		list = append(list, api.Entry{Term: term, Data: "e" + string(rune('a'+i))})
	}
	return list
}

func sameMail(a, b api.Mail) bool {
	return a.Kind == b.Kind && a.Term == b.Term && a.Index == b.Index && a.Prev == b.Prev && a.Commit == b.Commit && a.Good == b.Good && slices.Equal(a.Entries, b.Entries) && a.Data == b.Data && len(a.Hashes) == len(b.Hashes) && a.Epoch == b.Epoch && a.Site == b.Site && a.At == b.At && a.Whole == b.Whole && len(a.Holes) == len(b.Holes) && len(a.Ops) == len(b.Ops)
}

func sameKept(a, b api.Kept) bool {
	return a.Term == b.Term && a.Vote == b.Vote && a.Base == b.Base && a.BaseTerm == b.BaseTerm && a.Snap == b.Snap && slices.Equal(a.Entries, b.Entries)
}

func says(t *testing.T, what string, got []api.Send, want ...api.Send) {
	t.Helper()
	if !slices.EqualFunc(got, want, func(a, b api.Send) bool { return a.To == b.To && sameMail(a.Mail, b.Mail) }) {
		t.Errorf("%s: %+v, not %+v", what, got, want)
	}
}

func to(node int, m api.Mail) api.Send { return api.Send{To: node, Mail: m} }

// stands checks what can be asked of it.
func stands(t *testing.T, what string, p *poll.Poll, role, lead, commit, last int) {
	t.Helper()
	if p.Role() != role || p.Lead() != lead || p.Commit() != commit || p.Last() != last {
		t.Errorf("%s: role %d, lead %d, commit %d, last %d", what, p.Role(), p.Lead(), p.Commit(), p.Last())
	}
}

func keeps(t *testing.T, what string, p *poll.Poll, k api.Kept) {
	t.Helper()
	if !sameKept(p.Kept(), k) {
		t.Errorf("%s: keeps %+v, not %+v", what, p.Kept(), k)
	}
}

// leader answers node 0 as the leader of the next term, with that kept; nothing is unsaved.
func leader(t *testing.T, k api.Kept) *poll.Poll {
	t.Helper()
	p := made(t, 0, k)
	p.Tick(0)
	p.Tick(0)
	p.Take(1, api.Mail{Kind: api.MailVote, Term: k.Term + 1, Good: true})
	if p.Role() != api.Leader {
		t.Fatal("doesn't lead")
	}
	p.Save()
	return p
}

func fed(term, index int) api.Mail {
	return api.Mail{Kind: api.MailFed, Term: term, Good: true, Index: index}
}

// P13.1: which configurations and numbers may be.
func TestP13_1Arg(t *testing.T) {
	for _, x := range []struct {
		base, spread, me int
		e                api.Errno
	}{{2, 1, 0, api.OK}, {64, 64, 2, api.OK}, {1, 1, 0, api.ErrArg}, {65, 1, 0, api.ErrArg}, {2, 0, 0, api.ErrArg}, {2, 65, 0, api.ErrArg}, {2, 1, -1, api.ErrArg}, {2, 1, 3, api.ErrArg}} {
		for _, k := range []api.Kept{{Vote: -1}, {Vote: 7}} {
			want := x.e
			if want == api.OK && k.Vote == 7 {
				want = api.ErrForm
			}
			p, e := poll.New(api.Conf{Base: x.base, Spread: x.spread}, x.me, k)
			if e != want || (p != nil) != (e == api.OK) {
				t.Error(x, k.Vote, e)
			}
		}
	}
}

// P13.1: what may be kept.
func TestP13_1Form(t *testing.T) {
	long := strings.Repeat("x", 8000)
	good := []api.Kept{{Vote: -1}, {Term: 1 << 40, Vote: 2}, {Term: 3, Vote: 0, Base: 1 << 40, BaseTerm: 3, Snap: strings.Repeat("s", 100000)}, {Term: 3, Base: 5, BaseTerm: 1, Entries: entries(1, 1, 2, 3)}, {Term: 3, Entries: []api.Entry{{Term: 1, Data: long}, {Term: 3}}}}
	for i, k := range good {
		p := made(t, 1, k)
		keeps(t, "new", p, k)
		stands(t, "new", p, api.Follower, -1, k.Base, k.Base+len(k.Entries))
		if s, ok := p.Save(); ok || s.From != 0 || s.Entries != nil {
			t.Error(i, "something is unsaved", s)
		}
	}
	bad := []api.Kept{{Term: -1, Vote: -1}, {Term: 1<<40 + 1}, {Vote: -2}, {Vote: 3}, {Base: -1, BaseTerm: 1, Term: 1}, {Base: 1<<40 + 1, BaseTerm: 1, Term: 1}, {Base: 1, Term: 1}, {BaseTerm: 1, Term: 1}, {Base: 1, BaseTerm: 2, Term: 1}, {Term: 3, Entries: entries(0)}, {Term: 3, Entries: entries(-1)}, {Term: 3, Entries: entries(4)}, {Term: 3, Entries: entries(2, 1)}, {Term: 3, Base: 4, BaseTerm: 2, Entries: entries(1)}, {Term: 3, Entries: []api.Entry{{Term: 1, Data: long + "x"}}}, {Snap: strings.Repeat("s", 100001)}, {Term: 1, Entries: entries(1, 1, 2)}}
	for i, k := range bad {
		if p, e := poll.New(conf, 0, k); p != nil || e != api.ErrForm {
			t.Error(i, e)
		}
	}
}

// P13.1: entries behind the base.
func TestP13_1Entry(t *testing.T) {
	p := made(t, 1, api.Kept{Term: 3, Vote: -1, Base: 5, BaseTerm: 1, Entries: entries(1, 2)})
	for index, want := range map[int]api.Entry{6: {Term: 1, Data: "ea"}, 7: {Term: 2, Data: "eb"}} {
		if e, ok := p.Entry(index); e != want || !ok {
			t.Error(index, e, ok)
		}
	}
	for _, index := range []int{-1 << 63, -1, 0, 4, 5, 8, 1 << 62} {
		if e, ok := p.Entry(index); e != (api.Entry{}) || ok {
			t.Error(index, e, ok)
		}
	}
}

// P13.2: time goes on till it stands; the wait is Base and some part of Spread.
func TestP13_2Stand(t *testing.T) {
	p := made(t, 1, api.Kept{Term: 3, Vote: 0, Base: 5, BaseTerm: 1, Entries: entries(1, 2)})
	says(t, "first tick", p.Tick(1))
	ask := func(term int) []api.Send {
		m := api.Mail{Kind: api.MailAsk, Term: term, Index: 7, Prev: 2}
		return []api.Send{to(0, m), to(2, m)}
	}
	says(t, "it stands", p.Tick(1), ask(4)...)
	stands(t, "a candidate", p, api.Candidate, -1, 5, 7)
	keeps(t, "a candidate", p, api.Kept{Term: 4, Vote: 1, Base: 5, BaseTerm: 1, Entries: entries(1, 2)})
	for i, x := range []struct{ draw, wait int }{{1, 3}, {2, 4}, {3, 2}, {-1, 4}, {-2, 3}, {-3, 2}, {-1 << 63, 3}, {1<<63 - 1, 3}, {0, 2}} {
		if i > 0 {
			says(t, "it stands again", p.Tick(x.draw), ask(4+i)...)
		}
		for range x.wait - 1 {
			says(t, "it waits", p.Tick(77))
		}
	}
	base := made(t, 0, api.Kept{Term: 2, Vote: -1, Base: 5, BaseTerm: 2})
	base.Tick(0)
	says(t, "without entries", base.Tick(0), to(1, api.Mail{Kind: api.MailAsk, Term: 3, Index: 5, Prev: 2}), to(2, api.Mail{Kind: api.MailAsk, Term: 3, Index: 5, Prev: 2}))
	end := made(t, 0, api.Kept{Term: 1 << 40, Vote: -1})
	for range 5 {
		says(t, "no term above", end.Tick(0))
	}
	stands(t, "no term above", end, api.Follower, -1, 0, 0)
	if _, ok := end.Save(); ok {
		t.Error("no term above, and something is unsaved")
	}
}

// P13.2: a leader feeds all with each tick, and with what is proposed.
func TestP13_2Leader(t *testing.T) {
	p := leader(t, api.Kept{Vote: -1})
	feed := func(commit int, data ...string) api.Mail {
		m := api.Mail{Kind: api.MailFeed, Term: 1, Commit: commit}
		for _, d := range data {
			m.Entries = append(m.Entries, api.Entry{Term: 1, Data: d})
		}
		return m
	}
	says(t, "tick", p.Tick(0), to(1, feed(0, "")), to(2, feed(0, "")))
	index, sends, e := p.Propose("x")
	if index != 2 || e != api.OK {
		t.Error(index, e)
	}
	says(t, "propose", sends, to(1, feed(0, "", "x")), to(2, feed(0, "", "x")))
	for i := range 8 {
		index, sends, e = p.Propose("y")
		if index != 3+i || e != api.OK {
			t.Error(index, e)
		}
	}
	says(t, "at most eight", sends, to(1, feed(0, "", "x", "y", "y", "y", "y", "y", "y")), to(2, feed(0, "", "x", "y", "y", "y", "y", "y", "y")))
	if index, sends, e := p.Propose(strings.Repeat("x", 8001)); index != 0 || sends != nil || e != api.ErrLong {
		t.Error(index, e)
	}
	if index, _, e := p.Propose(strings.Repeat("x", 8000)); index != 11 || e != api.OK {
		t.Error(index, e)
	}
	f := fresh(t, 0)
	if index, sends, e := f.Propose(strings.Repeat("x", 8001)); index != 0 || sends != nil || e != api.ErrFollower {
		t.Error("a follower", index, e)
	}
	f.Tick(0)
	f.Tick(0)
	if index, sends, e := f.Propose("x"); index != 0 || sends != nil || e != api.ErrFollower {
		t.Error("a candidate", index, e)
	}
}

// P13.3: what is let go does nothing at all.
func TestP13_3LetGo(t *testing.T) {
	good := []api.Mail{{Kind: api.MailAsk, Term: 9, Index: 3, Prev: 2}, {Kind: api.MailVote, Term: 9, Good: true}, {Kind: api.MailFeed, Term: 9, Index: 3, Prev: 3, Entries: entries(3, 4)}, {Kind: api.MailFed, Term: 9, Good: true, Index: 1}, {Kind: api.MailLay, Term: 9, Index: 7, Prev: 3, Data: "s"}}
	wrong := []func(m *api.Mail){
		func(m *api.Mail) { m.Kind = 0 }, func(m *api.Mail) { m.Kind = 6 }, func(m *api.Mail) { m.Kind = -1 },
		func(m *api.Mail) { m.Term = 0 }, func(m *api.Mail) { m.Term = -1 }, func(m *api.Mail) { m.Term = 1<<40 + 1 },
		func(m *api.Mail) { m.Index = -1 }, func(m *api.Mail) { m.Index = 1<<40 + 1 },
		func(m *api.Mail) { m.Prev = -1 }, func(m *api.Mail) { m.Prev = 1<<40 + 1 },
		func(m *api.Mail) { m.Commit = -1 }, func(m *api.Mail) { m.Commit = 1<<40 + 1 },
		func(m *api.Mail) { m.Entries = entries(4, 4, 4, 4, 4, 4, 4, 4, 4) }, func(m *api.Mail) { m.Entries = entries(4, 3) },
		func(m *api.Mail) { m.Prev = 5; m.Entries = entries(4) }, func(m *api.Mail) { m.Prev = 0; m.Entries = entries(0) },
		func(m *api.Mail) { m.Entries = entries(10) }, func(m *api.Mail) { m.Entries = []api.Entry{{Term: 4, Data: strings.Repeat("x", 8001)}} },
		func(m *api.Mail) { m.Data = strings.Repeat("x", 100001) },
	}
	check := func(from int, m api.Mail) {
		t.Helper()
		p := made(t, 1, api.Kept{Term: 4, Vote: -1, Entries: entries(1, 2, 3)})
		says(t, "let go", p.Take(from, m))
		keeps(t, "let go", p, api.Kept{Term: 4, Vote: -1, Entries: entries(1, 2, 3)})
		stands(t, "let go", p, api.Follower, -1, 0, 3)
		if _, ok := p.Save(); ok {
			t.Error("let go, and something is unsaved")
		}
	}
	for _, m := range good {
		for _, from := range []int{1, -1, 3, 1 << 62} {
			check(from, m)
		}
		for _, change := range wrong {
			bad := m
			change(&bad)
			check(0, bad)
		}
	}
	for _, change := range []func(m *api.Mail){func(m *api.Mail) { m.Index = 0 }, func(m *api.Mail) { m.Prev = 0 }, func(m *api.Mail) { m.Prev = 10 }} {
		bad := good[4]
		change(&bad)
		check(0, bad)
	}
}

// P13.3: a greater term is taken, a lesser one refused.
func TestP13_3Term(t *testing.T) {
	old := api.Kept{Term: 4, Vote: 1, Entries: entries(1, 2, 3)}
	for _, m := range []api.Mail{{Kind: api.MailVote, Term: 7, Good: true}, {Kind: api.MailFed, Term: 7, Good: true, Index: 3}, {Kind: api.MailFed, Term: 7}} {
		p := leader(t, old)
		says(t, "greater", p.Take(1, m))
		stands(t, "greater", p, api.Follower, -1, 0, 4)
		if k := p.Kept(); k.Term != 7 || k.Vote != -1 {
			t.Error(k)
		}
		if s, ok := p.Save(); !ok || s.Term != 7 || s.Vote != -1 || s.From != 0 || s.Entries != nil {
			t.Error(s, ok)
		}
	}
	for _, x := range []struct {
		m      api.Mail
		answer int
	}{{api.Mail{Kind: api.MailAsk, Term: 3, Index: 9, Prev: 3}, api.MailVote}, {api.Mail{Kind: api.MailFeed, Term: 3, Index: 3, Prev: 3}, api.MailFed}, {api.Mail{Kind: api.MailLay, Term: 3, Index: 9, Prev: 3}, api.MailFed}, {api.Mail{Kind: api.MailVote, Term: 3, Good: true}, 0}, {api.Mail{Kind: api.MailFed, Term: 3, Good: true}, 0}} {
		p := made(t, 1, old)
		sends := p.Take(2, x.m)
		if x.answer == 0 {
			says(t, "lesser", sends)
		} else {
			says(t, "lesser", sends, to(2, api.Mail{Kind: x.answer, Term: 4}))
		}
		keeps(t, "lesser", p, old)
		stands(t, "lesser", p, api.Follower, -1, 0, 3)
	}
}

// P13.3: votes, by what was voted, and by whose log is further.
func TestP13_3Ask(t *testing.T) {
	for i, x := range []struct {
		vote, index, prev int
		good              bool
	}{{-1, 3, 3, true}, {2, 3, 3, true}, {0, 3, 3, false}, {1, 3, 3, false}, {-1, 2, 3, false}, {-1, 4, 3, true}, {-1, 1, 4, true}, {-1, 0, 0, false}, {-1, 99, 2, false}, {2, 2, 3, false}} {
		p := made(t, 1, api.Kept{Term: 4, Vote: x.vote, Entries: entries(1, 2, 3)})
		p.Tick(0)
		says(t, "ask", p.Take(2, api.Mail{Kind: api.MailAsk, Term: 4, Index: x.index, Prev: x.prev}), to(2, api.Mail{Kind: api.MailVote, Term: 4, Good: x.good}))
		vote := x.vote
		if x.good {
			vote = 2
		}
		if p.Kept().Vote != vote {
			t.Error(i, p.Kept().Vote)
		}
		if s, ok := p.Save(); x.vote == -1 && x.good && (!ok || s.Vote != 2 || s.Term != 4 || s.From != 0) || !x.good && ok {
			t.Error(i, s, ok)
		}
		if n := len(p.Tick(0)); (n == 0) != x.good {
			t.Error(i, "the clock begins anew with a vote, and only then")
		}
	}
	p := made(t, 1, api.Kept{Term: 4, Vote: 1, Base: 5, BaseTerm: 3})
	says(t, "of a greater term, behind a base", p.Take(2, api.Mail{Kind: api.MailAsk, Term: 5, Index: 5, Prev: 3}), to(2, api.Mail{Kind: api.MailVote, Term: 5, Good: true}))
	says(t, "to another one in the same term", p.Take(0, api.Mail{Kind: api.MailAsk, Term: 5, Index: 9, Prev: 4}), to(0, api.Mail{Kind: api.MailVote, Term: 5}))
}

// P13.3: a candidate with one more vote leads.
func TestP13_3Vote(t *testing.T) {
	k := api.Kept{Term: 3, Vote: -1, Base: 5, BaseTerm: 1, Entries: entries(1, 2)}
	p := made(t, 1, k)
	says(t, "no candidate", p.Take(0, api.Mail{Kind: api.MailVote, Term: 3, Good: true}))
	p.Tick(0)
	p.Tick(0)
	says(t, "not good", p.Take(0, api.Mail{Kind: api.MailVote, Term: 4}))
	stands(t, "not good", p, api.Candidate, -1, 5, 7)
	p.Save()
	m := api.Mail{Kind: api.MailFeed, Term: 4, Index: 7, Prev: 2, Commit: 5, Entries: []api.Entry{{Term: 4}}}
	says(t, "good", p.Take(0, api.Mail{Kind: api.MailVote, Term: 4, Good: true}), to(0, m), to(2, m))
	stands(t, "good", p, api.Leader, 1, 5, 8)
	if s, ok := p.Save(); !ok || s.Term != 4 || s.Vote != 1 || s.From != 8 || !slices.Equal(s.Entries, []api.Entry{{Term: 4}}) {
		t.Error(s, ok)
	}
	says(t, "one more", p.Take(2, api.Mail{Kind: api.MailVote, Term: 4, Good: true}))
	says(t, "who asks a leader", p.Take(2, api.Mail{Kind: api.MailAsk, Term: 4, Index: 99, Prev: 4}), to(2, api.Mail{Kind: api.MailVote, Term: 4}))
	says(t, "who feeds a leader", p.Take(2, api.Mail{Kind: api.MailFeed, Term: 4, Index: 8, Prev: 4}))
	says(t, "who lays a leader", p.Take(2, api.Mail{Kind: api.MailLay, Term: 4, Index: 99, Prev: 4}))
	stands(t, "still", p, api.Leader, 1, 5, 8)
	says(t, "fed, and no leader", made(t, 1, k).Take(2, fed(3, 7)))
}

// P13.3: what a follower does with a leader's entries.
func TestP13_3Feed(t *testing.T) {
	x := func(terms ...int) (list []api.Entry) {
		for _, term := range terms {
			list = append(list, api.Entry{Term: term, Data: "x"})
		}
		return list
	}
	for i, c := range []struct {
		m            api.Mail
		good         bool
		index        int
		commit, from int
		terms        []int
	}{
		{api.Mail{Index: 5, Prev: 3}, true, 5, 2, 0, []int{1, 1, 2, 3, 3}},
		{api.Mail{Index: 5, Prev: 3, Commit: 4}, true, 5, 4, 0, []int{1, 1, 2, 3, 3}},
		{api.Mail{Index: 5, Prev: 3, Commit: 99}, true, 5, 5, 0, []int{1, 1, 2, 3, 3}},
		{api.Mail{Index: 3, Prev: 2, Commit: 99}, true, 3, 3, 0, []int{1, 1, 2, 3, 3}},
		{api.Mail{Index: 5, Prev: 3, Entries: x(3, 4), Commit: 6}, true, 7, 6, 6, []int{1, 1, 2, 3, 3, 3, 4}},
		{api.Mail{Index: 3, Prev: 2, Entries: x(3, 3, 4)}, true, 6, 2, 6, []int{1, 1, 2, 3, 3, 4}},
		{api.Mail{Index: 3, Prev: 2, Entries: x(3), Commit: 9}, true, 4, 4, 0, []int{1, 1, 2, 3, 3}},
		{api.Mail{Index: 3, Prev: 2, Entries: x(3, 4)}, true, 5, 2, 5, []int{1, 1, 2, 3, 4}},
		{api.Mail{Index: 3, Prev: 2, Entries: x(4)}, true, 4, 2, 4, []int{1, 1, 2, 4}},
		{api.Mail{Index: 2, Prev: 1, Entries: x(4, 4)}, true, 4, 2, 3, []int{1, 1, 4, 4}},
		{api.Mail{Index: 2, Prev: 2, Entries: x(4, 4)}, false, 2, 2, 0, []int{1, 1, 2, 3, 3}},
		{api.Mail{Index: 6, Prev: 3}, false, 5, 2, 0, []int{1, 1, 2, 3, 3}},
		{api.Mail{Index: 99, Prev: 3, Commit: 4}, false, 5, 2, 0, []int{1, 1, 2, 3, 3}},
		{api.Mail{Index: 5, Prev: 2, Commit: 4}, false, 4, 2, 0, []int{1, 1, 2, 3, 3}},
		{api.Mail{Index: 3, Prev: 3, Entries: x(4)}, false, 2, 2, 0, []int{1, 1, 2, 3, 3}},
		{api.Mail{Index: 0, Entries: x(9, 9)}, true, 2, 2, 0, []int{1, 1, 2, 3, 3}},
		{api.Mail{Index: 1, Prev: 9, Entries: x(9)}, true, 2, 2, 0, []int{1, 1, 2, 3, 3}},
		{api.Mail{Index: 0, Prev: 0}, true, 0, 2, 0, []int{1, 1, 2, 3, 3}},
		{api.Mail{Index: 2, Prev: 9, Commit: 5}, true, 2, 2, 0, []int{1, 1, 2, 3, 3}},
		{api.Mail{Index: 5, Prev: 3, Entries: x(3, 3, 3, 3, 3, 3, 3, 3)}, true, 13, 2, 6, []int{1, 1, 2, 3, 3, 3, 3, 3, 3, 3, 3, 3, 3}},
		{api.Mail{Index: 1, Prev: 1, Commit: 5}, true, 1, 2, 0, []int{1, 1, 2, 3, 3}},
		{api.Mail{Index: 1, Prev: 1, Entries: x(1, 2, 3), Commit: 9}, true, 4, 4, 0, []int{1, 1, 2, 3, 3}},
		{api.Mail{Index: 0, Prev: 0, Entries: x(7, 8, 9), Commit: 9}, true, 3, 3, 3, []int{1, 1, 9}},
		{api.Mail{Index: 1, Prev: 9, Entries: x(9, 9)}, true, 3, 2, 3, []int{1, 1, 9}},
		{api.Mail{Index: 1, Prev: 1, Entries: x(1, 2, 3, 3, 4), Commit: 5}, true, 6, 5, 6, []int{1, 1, 2, 3, 3, 4}},
	} {
		p := made(t, 1, api.Kept{Term: 9, Vote: 0, Base: 1, BaseTerm: 1, Entries: x(1, 2, 3, 3)})
		p.Take(0, api.Mail{Kind: api.MailFeed, Term: 9, Index: 2, Prev: 1, Commit: 2})
		p.Tick(0)
		c.m.Kind, c.m.Term = api.MailFeed, 9
		says(t, "feed "+string(rune('a'+i)), p.Take(2, c.m), to(2, api.Mail{Kind: api.MailFed, Term: 9, Good: c.good, Index: c.index}))
		want := api.Kept{Term: 9, Vote: 0, Base: 1, BaseTerm: 1, Entries: x(c.terms[1:]...)}
		keeps(t, "feed "+string(rune('a'+i)), p, want)
		stands(t, "feed "+string(rune('a'+i)), p, api.Follower, 2, c.commit, len(c.terms))
		s, ok := p.Save()
		if ok != (c.from > 0) || s.From != c.from || c.from > 0 && !slices.Equal(s.Entries, want.Entries[c.from-2:]) {
			t.Errorf("feed %d: %+v, %v", i, s, ok)
		}
		if len(p.Tick(0)) != 0 {
			t.Error(i, "the clock doesn't begin anew")
		}
	}
	p := fresh(t, 1)
	p.Tick(0)
	p.Tick(0)
	says(t, "a candidate follows", p.Take(2, api.Mail{Kind: api.MailFeed, Term: 1, Entries: x(1)}), to(2, fed(1, 1)))
	stands(t, "a candidate follows", p, api.Follower, 2, 0, 1)
	says(t, "no last one", fresh(t, 1).Take(2, api.Mail{Kind: api.MailFeed, Term: 1, Index: 0, Prev: 1, Entries: x(1)}), to(2, api.Mail{Kind: api.MailFed, Term: 1}))
}

// P13.3: what a follower does with a leader's snapshot.
func TestP13_3Lay(t *testing.T) {
	for i, c := range []struct {
		index, prev int
		base, term  int
		stay        []int
		commit      int
	}{{9, 4, 9, 4, nil, 9}, {3, 2, 3, 2, []int{3, 3}, 3}, {5, 3, 5, 3, nil, 5}, {3, 1, 3, 1, nil, 3}, {4, 4, 4, 4, nil, 4}, {2, 1, 1, 1, []int{1, 2, 3, 3}, 2}, {1, 1, 1, 1, []int{1, 2, 3, 3}, 2}, {2, 9, 1, 1, []int{1, 2, 3, 3}, 2}, {6, 3, 6, 3, nil, 6}} {
		p := made(t, 1, api.Kept{Term: 9, Vote: 0, Base: 1, BaseTerm: 1, Snap: "old", Entries: entries(1, 2, 3, 3)})
		p.Take(0, api.Mail{Kind: api.MailFeed, Term: 9, Index: 2, Prev: 1, Commit: 2})
		p.Tick(0)
		says(t, "lay", p.Take(2, api.Mail{Kind: api.MailLay, Term: 9, Index: c.index, Prev: c.prev, Data: "new"}), to(2, fed(9, c.commit)))
		k := api.Kept{Term: 9, Vote: 0, Base: c.base, BaseTerm: c.term, Snap: "new", Entries: entries(1, 2, 3, 3)[4-len(c.stay):]}
		if c.base == 1 {
			k.Snap = "old"
		}
		keeps(t, "lay", p, k)
		stands(t, "lay", p, api.Follower, 2, c.commit, c.base+len(c.stay))
		s, ok := p.Save()
		if c.base == 1 && (ok || s.From != 0) || c.base > 1 && (!ok || s.From != c.base+1 || !slices.Equal(s.Entries, k.Entries)) {
			t.Errorf("lay %d: %+v, %v", i, s, ok)
		}
		if len(p.Tick(0)) != 0 {
			t.Error(i, "the clock doesn't begin anew")
		}
	}
}

// P13.3: a snapshot of as many bytes as may be.
func TestP13_3LayLong(t *testing.T) {
	p := fresh(t, 1)
	snap := strings.Repeat("s", 100000)
	says(t, "long", p.Take(2, api.Mail{Kind: api.MailLay, Term: 1, Index: 3, Prev: 1, Data: snap}), to(2, fed(1, 3)))
	keeps(t, "long", p, api.Kept{Term: 1, Vote: -1, Base: 3, BaseTerm: 1, Snap: snap})
}

// P13.3: what a leader does when a node has its entries: it agrees, and feeds on.
func TestP13_3Fed(t *testing.T) {
	p := leader(t, api.Kept{Term: 3, Vote: -1, Entries: entries(1, 2)})
	says(t, "an older entry", p.Take(1, fed(4, 2)), to(1, api.Mail{Kind: api.MailFeed, Term: 4, Index: 2, Prev: 2, Entries: []api.Entry{{Term: 4}}}))
	stands(t, "an older entry isn't agreed on", p, api.Leader, 0, 0, 3)
	says(t, "its own", p.Take(1, fed(4, 3)))
	stands(t, "its own is agreed on", p, api.Leader, 0, 3, 3)
	says(t, "less", p.Take(1, fed(4, 1)))
	says(t, "more than there is", p.Take(1, fed(4, 99)))
	stands(t, "more than there is", p, api.Leader, 0, 3, 3)
	for range 10 {
		p.Propose("y")
	}
	y := func(n int) (list []api.Entry) {
		for range n {
			list = append(list, api.Entry{Term: 4, Data: "y"})
		}
		return list
	}
	says(t, "node 2 is fed on", p.Take(2, fed(4, 3)), to(2, api.Mail{Kind: api.MailFeed, Term: 4, Index: 3, Prev: 4, Commit: 3, Entries: y(8)}))
	says(t, "the rest", p.Take(2, fed(4, 11)), to(2, api.Mail{Kind: api.MailFeed, Term: 4, Index: 11, Prev: 4, Commit: 11, Entries: y(2)}))
	stands(t, "node 2 is enough", p, api.Leader, 0, 11, 13)
	says(t, "all", p.Take(2, fed(4, 13)))
	stands(t, "all", p, api.Leader, 0, 13, 13)
	says(t, "node 1 is fed on", p.Take(1, fed(4, 3)), to(1, api.Mail{Kind: api.MailFeed, Term: 4, Index: 3, Prev: 4, Commit: 13, Entries: y(8)}))
}

// P13.3: a leader feeds who matches less than is next only when it matches up to there.
func TestP13_3FedLess(t *testing.T) {
	p := leader(t, api.Kept{Term: 3, Vote: -1, Entries: entries(1, 2)})
	says(t, "less than the one ahead of next", p.Take(1, fed(4, 1)))
	says(t, "a tick feeds from next on", p.Tick(0)[:1], to(1, api.Mail{Kind: api.MailFeed, Term: 4, Index: 2, Prev: 2, Entries: []api.Entry{{Term: 4}}}))
}

// P13.3: a leader goes back for who hasn't what stands ahead.
func TestP13_3Back(t *testing.T) {
	k := api.Kept{Term: 3, Vote: -1, Base: 2, BaseTerm: 1, Snap: "snap", Entries: entries(1, 1, 2, 2)}
	p := leader(t, k)
	back := func(index int) api.Mail { return api.Mail{Kind: api.MailFed, Term: 4, Index: index} }
	own := api.Entry{Term: 4}
	all := append(slices.Clone(k.Entries), own)
	feed := func(index, prev int) api.Mail {
		return api.Mail{Kind: api.MailFeed, Term: 4, Index: index, Prev: prev, Commit: 2, Entries: all[index-2:]}
	}
	says(t, "one less", p.Take(1, back(99)), to(1, feed(5, 2)))
	says(t, "to the number", p.Take(1, back(3)), to(1, feed(3, 1)))
	says(t, "no further back than that", p.Take(1, back(3)), to(1, feed(2, 1)))
	says(t, "below the base", p.Take(1, back(0)), to(1, api.Mail{Kind: api.MailLay, Term: 4, Index: 2, Prev: 1, Data: "snap"}))
	says(t, "no further", p.Take(1, back(0)))
	p.Take(2, fed(4, 4))
	says(t, "not below what matches", p.Take(2, back(0)), to(2, feed(4, 1)))
	says(t, "no further than what matches", p.Take(2, back(0)))
}

// P13.4: a snapshot takes the place of entries that are agreed on.
func TestP13_4Compact(t *testing.T) {
	p := made(t, 1, api.Kept{Term: 4, Vote: 0, Base: 1, BaseTerm: 1, Snap: "old", Entries: entries(1, 2, 3)})
	p.Take(2, api.Mail{Kind: api.MailFeed, Term: 4, Index: 3, Prev: 2, Commit: 3})
	for _, x := range []struct {
		index int
		snap  string
	}{{1, "s"}, {0, "s"}, {-1, "s"}, {4, "s"}, {99, "s"}, {3, strings.Repeat("s", 100001)}} {
		if e := p.Compact(x.index, x.snap); e != api.ErrArg {
			t.Error(x.index, e)
		}
	}
	keeps(t, "refused", p, api.Kept{Term: 4, Vote: 0, Base: 1, BaseTerm: 1, Snap: "old", Entries: entries(1, 2, 3)})
	if _, ok := p.Save(); ok {
		t.Error("refused, and something is unsaved")
	}
	snap := strings.Repeat("s", 100000)
	if e := p.Compact(3, snap); e != api.OK {
		t.Error(e)
	}
	rest := entries(1, 2, 3)[2:]
	keeps(t, "compacted", p, api.Kept{Term: 4, Vote: 0, Base: 3, BaseTerm: 2, Snap: snap, Entries: rest})
	stands(t, "compacted", p, api.Follower, 2, 3, 4)
	if s, ok := p.Save(); !ok || s.From != 4 || !slices.Equal(s.Entries, rest) {
		t.Error(s.From, ok)
	}
	if e := p.Compact(3, "s"); e != api.ErrArg {
		t.Error("the same", e)
	}
}

// P13.5: what is another one is told once, as it is when it is asked for.
func TestP13_5Save(t *testing.T) {
	p := made(t, 1, api.Kept{Vote: -1})
	told := func(what string, want api.Save, touched bool) {
		t.Helper()
		s, ok := p.Save()
		if ok != touched || touched && (s.Term != want.Term || s.Vote != want.Vote || s.From != want.From || !slices.Equal(s.Entries, want.Entries)) {
			t.Errorf("%s: %+v, %v", what, s, ok)
		}
		if again, ok := p.Save(); ok || again.From != 0 || again.Entries != nil {
			t.Errorf("%s, again: %+v, %v", what, again, ok)
		}
	}
	told("new", api.Save{}, false)
	feed := func(term, index, prev, commit int, list ...api.Entry) {
		p.Take(0, api.Mail{Kind: api.MailFeed, Term: term, Index: index, Prev: prev, Commit: commit, Entries: list})
	}
	feed(2, 0, 0, 0, entries(1, 1, 2)...)
	told("a term and entries", api.Save{Term: 2, Vote: -1, From: 1, Entries: entries(1, 1, 2)}, true)
	feed(2, 3, 2, 2, entries(2)...)
	feed(2, 4, 2, 2, entries(2, 2)...)
	told("entries, by two mails", api.Save{Term: 2, Vote: -1, From: 4, Entries: slices.Concat(entries(2), entries(2, 2))}, true)
	feed(2, 4, 2, 2, entries(2)...)
	told("entries that were there", api.Save{}, false)
	p.Take(2, api.Mail{Kind: api.MailAsk, Term: 3, Index: 99, Prev: 2})
	told("a vote", api.Save{Term: 3, Vote: 2}, true)
	feed(3, 4, 2, 2, entries(3, 3, 3)...)
	feed(4, 2, 1, 2, entries(4)...)
	told("taken away further ahead", api.Save{Term: 4, Vote: -1, From: 3, Entries: entries(4)}, true)
	feed(4, 3, 4, 3, entries(4, 4)...)
	p.Compact(3, "snap")
	told("behind a base that came", api.Save{Term: 4, Vote: -1, From: 4, Entries: entries(4, 4)}, true)
	feed(4, 5, 4, 5, entries(4, 4)...)
	p.Compact(4, "snap")
	feed(4, 7, 4, 5, entries(4)...)
	told("from the base on", api.Save{Term: 4, Vote: -1, From: 5, Entries: slices.Concat(entries(4, 4)[1:], entries(4, 4), entries(4))}, true)
	if !sameKept(p.Kept(), api.Kept{Term: 4, Vote: -1, Base: 4, BaseTerm: 4, Snap: "snap", Entries: slices.Concat(entries(4, 4)[1:], entries(4, 4), entries(4))}) {
		t.Errorf("%+v", p.Kept())
	}
	p.Tick(0)
	p.Tick(0)
	told("it stands", api.Save{Term: 5, Vote: 1}, true)
}

// P13.6: a copy goes its own way.
func TestP13_6Copy(t *testing.T) {
	p := leader(t, api.Kept{Term: 3, Vote: -1, Entries: entries(1, 2)})
	p.Take(1, fed(4, 3))
	p.Propose("x")
	c := p.Copy()
	if !sameKept(c.Kept(), p.Kept()) {
		t.Error(c.Kept())
	}
	stands(t, "copy", c, api.Leader, 0, 3, 4)
	if s, ok := c.Save(); !ok || s.From != 4 {
		t.Error("what is unsaved", s, ok)
	}
	p.Propose("y")
	c.Propose("z")
	p.Take(1, fed(4, 5))
	stands(t, "first", p, api.Leader, 0, 5, 5)
	stands(t, "copy", c, api.Leader, 0, 3, 5)
	if e, _ := p.Entry(5); e.Data != "y" {
		t.Error(e)
	}
	if e, _ := c.Entry(5); e.Data != "z" {
		t.Error(e)
	}
	if s, ok := p.Save(); !ok || s.From != 4 || len(s.Entries) != 2 {
		t.Error(s, ok)
	}
	a := made(t, 1, api.Kept{Term: 9, Vote: -1, Entries: append(make([]api.Entry, 0, 9), entries(1, 2, 3)...)})
	b := a.Copy()
	for i, q := range []*poll.Poll{a, b} {
		q.Take(0, api.Mail{Kind: api.MailFeed, Term: 9, Index: 1, Prev: 1, Entries: []api.Entry{{Term: 8, Data: string(rune('0' + i))}}})
	}
	if e, _ := a.Entry(2); e.Data != "0" {
		t.Error("both have one memory", e)
	}
	f := fresh(t, 1)
	f.Tick(0)
	g := f.Copy()
	if len(g.Tick(0)) != 2 || f.Role() != api.Follower || len(f.Tick(0)) != 2 {
		t.Error("the clock of a copy")
	}
}

// P13.6: no part.
func TestP13_6Nil(t *testing.T) {
	var p *poll.Poll
	if p.Tick(1) != nil || p.Take(1, api.Mail{Kind: api.MailAsk, Term: 1}) != nil || p.Compact(1, "") != api.ErrNil || p.Role() != 0 || p.Lead() != 0 || p.Commit() != 0 || p.Last() != 0 || p.Copy() != nil || !sameKept(p.Kept(), api.Kept{}) {
		t.Error("a nil part answers something")
	}
	if n, sends, e := p.Propose("x"); n != 0 || sends != nil || e != api.ErrNil {
		t.Error(n, sends, e)
	}
	if s, ok := p.Save(); ok || s.Term != 0 || s.Vote != 0 || s.From != 0 || s.Entries != nil {
		t.Error(s, ok)
	}
	if e, ok := p.Entry(1); ok || e != (api.Entry{}) {
		t.Error(e, ok)
	}
}

// Rule 5: nothing that is handed in is kept, and what is answered is new memory; no two mails share any.
func TestRule5Memory(t *testing.T) {
	k := api.Kept{Term: 3, Vote: -1, Entries: append(make([]api.Entry, 0, 9), entries(1, 2)...)}
	p := leader(t, k)
	k.Entries[0].Data = "changed"
	p.Propose("x")
	if k.Entries[:3][2] != (api.Entry{}) {
		t.Error("spare room was used")
	}
	sends := p.Tick(0)
	sends[0].Mail.Entries[0].Data = "changed"
	if sends[1].Mail.Entries[0].Data == "changed" {
		t.Error("two mails share entries")
	}
	kept := p.Kept()
	kept.Entries[0].Data = "changed"
	s, _ := p.Save()
	s.Entries[0].Data = "changed"
	p.Kept().Entries[1].Data = "changed"
	f := fresh(t, 1)
	m := api.Mail{Kind: api.MailFeed, Term: 1, Entries: entries(1)}
	f.Take(0, m)
	m.Entries[0].Data = "changed"
	want := append(entries(1, 2), api.Entry{Term: 4}, api.Entry{Term: 4, Data: "x"})
	if !slices.Equal(p.Kept().Entries, want) || !slices.Equal(f.Kept().Entries, entries(1)) {
		t.Error(p.Kept().Entries, f.Kept().Entries)
	}
}
