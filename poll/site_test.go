package poll_test

import (
	"math/rand"
	"slices"
	"strconv"
	"testing"

	"redoubt/api"
	"redoubt/poll"
)

// site is three nodes that say nothing ahead of what must last; what was seen of them is checked as it comes.
type site struct {
	t       *testing.T
	nodes   [3]*poll.Poll
	lasting [3]api.Kept
	mails   []letter
	leaders map[int]int       // by term
	agreed  map[int]api.Entry // by number
	upTo    map[int]int       // by term: what was agreed on before anybody led it
}

type letter struct {
	from, to int
	m        api.Mail
}

func newSite(t *testing.T) *site {
	s := &site{t: t, leaders: map[int]int{}, agreed: map[int]api.Entry{}, upTo: map[int]int{}}
	for i := range 3 {
		s.nodes[i] = fresh(t, i)
		s.lasting[i] = s.nodes[i].Kept()
	}
	return s
}

// settle lets last what must, sends what is said, and looks at the node.
func (s *site) settle(i int, sends []api.Send) {
	p := s.nodes[i]
	old := s.lasting[i]
	save, touched := p.Save()
	now := p.Kept()
	if now.Base != old.Base {
		s.lasting[i] = now
	} else if touched {
		old.Term, old.Vote = save.Term, save.Vote
		if save.From > 0 {
			old.Entries = append(slices.Clone(old.Entries[:save.From-old.Base-1]), save.Entries...)
		}
		s.lasting[i] = old
	}
	if !sameKept(s.lasting[i], now) {
		s.t.Fatalf("node %d keeps %+v, and told of %+v", i, now, s.lasting[i])
	}
	for _, x := range sends {
		s.mails = append(s.mails, letter{i, x.To, x.Mail})
	}
	s.look(i)
}

func (s *site) look(i int) {
	p := s.nodes[i]
	k := p.Kept()
	if p.Role() == api.Leader {
		if other, ok := s.leaders[k.Term]; ok && other != i {
			s.t.Fatalf("nodes %d and %d lead in term %d", other, i, k.Term)
		}
		if _, ok := s.leaders[k.Term]; !ok {
			s.leaders[k.Term] = i
			s.hasAll(i)
		}
	}
	for n := k.Base + 1; n <= p.Commit(); n++ {
		e, _ := p.Entry(n)
		if other, ok := s.agreed[n]; ok && other != e {
			s.t.Fatalf("entry %d: %v and %v are agreed on", n, other, e)
		}
		s.agreed[n] = e
	}
}

// hasAll checks that who begins to lead has all that was agreed on.
func (s *site) hasAll(i int) {
	k := s.nodes[i].Kept()
	for n, e := range s.agreed {
		if n <= k.Base {
			continue
		}
		if own, ok := s.nodes[i].Entry(n); !ok || own != e {
			s.t.Fatalf("leader %d has %v as entry %d, not %v", i, own, n, e)
		}
	}
}

func (s *site) step(rnd *rand.Rand, lossy bool) {
	i := rnd.Intn(3)
	switch x := rnd.Intn(20); {
	case x < 4:
		s.settle(i, s.nodes[i].Tick(rnd.Intn(9)-4))
	case x == 4:
		_, sends, _ := s.nodes[i].Propose("d" + strconv.Itoa(rnd.Int()))
		s.settle(i, sends)
	case x == 5 && lossy:
		p, e := poll.New(conf, i, s.lasting[i])
		if e != api.OK {
			s.t.Fatal(e)
		}
		s.nodes[i] = p
		s.look(i)
	case x == 6:
		k := s.nodes[i].Kept()
		if n := s.nodes[i].Commit(); n > k.Base {
			s.nodes[i].Compact(k.Base+1+rnd.Intn(n-k.Base), "s")
			s.settle(i, nil)
		}
	case len(s.mails) > 0:
		at := rnd.Intn(len(s.mails))
		l := s.mails[at]
		if !lossy || rnd.Intn(8) > 0 { // else it is there twice
			s.mails = slices.Delete(s.mails, at, at+1)
		}
		if !lossy || rnd.Intn(8) > 0 { // else it is lost
			s.settle(l.to, s.nodes[l.to].Take(l.from, l.m))
		}
	}
}

// P13.7: at most one leads in each term; what is agreed on is so for all; who leads has it all.
func TestP13_7Safe(t *testing.T) {
	led, most := 0, 0
	for seed := range 60 {
		rnd := rand.New(rand.NewSource(int64(seed)))
		s := newSite(t)
		for range 3000 {
			s.step(rnd, seed%4 > 0)
			if len(s.mails) > 40 {
				s.mails = s.mails[20:]
			}
		}
		led += len(s.leaders)
		most = max(most, len(s.agreed))
	}
	if led < 60 || most < 20 {
		t.Error("nothing much happened", led, most)
	}
}

// P13.7, and DOC.md's second example: three new nodes; one leads, and its entry is agreed on by all.
func TestP13_7Example(t *testing.T) {
	s := newSite(t)
	s.settle(0, s.nodes[0].Tick(0))
	s.settle(0, s.nodes[0].Tick(0))
	says(t, "votes", []api.Send{to(s.mails[0].to, s.mails[0].m), to(s.mails[1].to, s.mails[1].m)}, to(1, api.Mail{Kind: api.MailAsk, Term: 1}), to(2, api.Mail{Kind: api.MailAsk, Term: 1}))
	for range 2 {
		for len(s.mails) > 0 {
			l := s.mails[0]
			s.mails = s.mails[1:]
			s.settle(l.to, s.nodes[l.to].Take(l.from, l.m))
		}
		s.settle(0, s.nodes[0].Tick(0))
	}
	for i := range 3 {
		if s.nodes[i].Lead() != 0 || s.nodes[i].Last() != 1 || i == 0 && s.nodes[i].Commit() != 1 {
			t.Error(i, s.nodes[i].Lead(), s.nodes[i].Commit())
		}
	}
}
