package calm_test

import (
	"math/rand"
	"slices"
	"testing"

	"redoubt/api"
	"redoubt/calm"
	"redoubt/carve"
	"redoubt/world"
)

var conf = api.Conf{Quota: 4000, Ops: 64, Epochs: 5, Rate: 100, Burst: 1000, Base: 2, Spread: 3, Snap: 7}

func made(t *testing.T, c api.Conf) *world.World {
	t.Helper()
	w, e := world.New(c)
	if e != api.OK {
		t.Fatal("New", e)
	}
	return w
}

func do(t *testing.T, w *world.World, acts ...api.Act) {
	t.Helper()
	for _, a := range acts {
		if e := w.Do(a); e != api.OK {
			t.Fatalf("%+v: %d", a, e)
		}
	}
}

func tick(id, draw int) api.Act { return api.Act{Kind: api.ActTick, Node: id, Draw: draw} }

func deliver(k int) api.Act { return api.Act{Kind: api.ActDeliver, K: k} }

func fuse(id, k int) api.Act { return api.Act{Kind: api.ActFuse, Node: id, K: k} }

func start(id int) api.Act { return api.Act{Kind: api.ActStart, Node: id} }

func crash(id int) api.Act { return api.Act{Kind: api.ActCrash, Node: id} }

func ask(id int, a api.Ask) api.Act { return api.Act{Kind: api.ActAsk, Node: id, Ask: a} }

// leader answers who leads a site, -1 if nobody does.
func leader(w *world.World, site int) int {
	for id := 3 * site; id < 3*site+3; id++ {
		if w.Leads(id) {
			return id
		}
	}
	return -1
}

func sameAct(a, b api.Act) bool {
	return a.Kind == b.Kind && a.Node == b.Node && a.K == b.K && a.Draw == b.Draw && slices.Equal(a.Keeps, b.Keeps) && a.Ask == b.Ask
}

// P27.1: how many fair rounds are enough.
func TestP27_1Bound(t *testing.T) {
	small := api.Conf{Quota: 1, Ops: 1, Epochs: 1, Rate: 100, Burst: 64, Base: 2, Spread: 3, Snap: 1}
	if n := calm.Bound(small, 0, 0); n != 140 {
		t.Error(n)
	}
	rows := func(m int) int { return m/4 + (m%4+3)/4 }
	for _, c := range []api.Conf{small, conf, {Quota: 1, Ops: 1, Epochs: 1, Rate: 1, Burst: 64, Base: 64, Spread: 64, Snap: 1}, {Quota: 1, Ops: 1, Epochs: 1, Rate: 63, Burst: 64, Base: 3, Spread: 1, Snap: 1}, {Quota: 1, Ops: 1, Epochs: 1, Rate: 1 << 12, Burst: 64, Base: 3, Spread: 9, Snap: 1}} {
		for _, n := range []int{0, 1, 2, 3, 4, 5, 16, 100, 1 << 10} {
			for _, bytes := range []int{0, 1, 64, 65, 1000, 1 << 20} {
				m := n + carve.Count(bytes)
				want := 8*(c.Base+c.Spread) + 100 + 4*n + 6*m*(5*rows(m)+64/c.Rate+2)
				if got := calm.Bound(c, n, bytes); got != want {
					t.Errorf("%v, %d, %d: %d, not %d", c, n, bytes, got, want)
				}
			}
		}
	}
	bad := conf
	bad.Quota = 0
	for _, x := range []struct {
		c        api.Conf
		n, bytes int
	}{{conf, -1, 0}, {conf, 1<<10 + 1, 0}, {conf, 0, -1}, {conf, 0, 1<<20 + 1}, {bad, 0, 0}, {api.Conf{}, 0, 0}, {conf, -1 << 63, 0}, {conf, 0, 1<<63 - 1}} {
		if n := calm.Bound(x.c, x.n, x.bytes); n != 0 {
			t.Error(x, n)
		}
	}
}

// P27.2: acts that mend, and rounds, behind any world that has no site lost.
func TestP27_2Extend(t *testing.T) {
	w := made(t, conf)
	acts := calm.Extend(w, 1)
	var want []api.Act
	for id := range 7 {
		want = append(want, fuse(id, -1))
	}
	for id := range 6 {
		want = append(want, tick(id, id))
	}
	for range 12 { // each node tells both others how far it is whole
		want = append(want, deliver(0))
	}
	if !slices.EqualFunc(acts, want, sameAct) {
		t.Errorf("%+v", acts)
	}
	if w.Mails() != 0 || len(calm.Extend(nil, 3)) != 0 {
		t.Error("the world changed")
	}
	do(t, w, tick(0, 0), tick(0, 0), crash(4), crash(1), crash(6))
	mails := w.Mails()
	for _, rounds := range []int{0, -1, -1 << 63} {
		acts = calm.Extend(w, rounds)
		if !slices.EqualFunc(acts, append(slices.Clone(want[:7]), start(1), start(4), start(6)), sameAct) {
			t.Errorf("%d: %+v", rounds, acts)
		}
	}
	if w.Mails() != mails || w.Up(1) || w.Leads(0) {
		t.Error("the world changed")
	}
	do(t, w, api.Act{Kind: api.ActLose, K: 1})
	if acts := calm.Extend(w, 2); len(acts) != 0 {
		t.Errorf("a site is lost: %+v", acts)
	}
}

// P27.2: at most 500 rounds.
func TestP27_2ExtendMost(t *testing.T) {
	w := made(t, conf)
	for _, x := range []struct{ rounds, want int }{{499, 499}, {500, 500}, {501, 500}, {1 << 62, 500}} {
		ticks := 0
		for _, a := range calm.Extend(w, x.rounds) {
			if a.Kind == api.ActTick {
				ticks++
			}
		}
		if ticks != 6*x.want {
			t.Error(x, ticks)
		}
	}
}

// fairRounds answers so many fair rounds behind a world, in any order, and plays them there.
func fairRounds(rnd *rand.Rand, c api.Conf, w *world.World, n int) (acts []api.Act) {
	play := func(a api.Act) {
		w.Do(a)
		acts = append(acts, a)
	}
	for range n {
		draws := [2][]int{rnd.Perm(c.Spread), rnd.Perm(c.Spread)}
		for _, id := range rnd.Perm(6) {
			play(tick(id, draws[id/3][id%3]+c.Spread*(rnd.Intn(5)-2)))
		}
		for w.Mails() > 0 {
			k := 0
			if rnd.Intn(2) == 0 {
				k = rnd.Intn(w.Mails())
			}
			play(deliver(k))
		}
	}
	return acts
}

// P27.2: how many rounds acts are, also where the last one is cut off.
func TestP27_2Fair(t *testing.T) {
	rnd := rand.New(rand.NewSource(1))
	for range 12 {
		w := made(t, conf)
		for range 5 {
			fairRounds(rnd, conf, w, 1)
			do(t, w, tick(rnd.Intn(6), 1))
		}
		do(t, w, crash(2), crash(5))
		before := w.Mails()
		v, _ := w.Copy()
		mend := []api.Act{fuse(3, -1), start(5), fuse(6, -7), start(2)}
		do(t, v, mend...)
		n := 1 + rnd.Intn(3)
		acts := append(mend, fairRounds(rnd, conf, v, n)...)
		if got := calm.Fair(conf, w, acts...); got != n {
			t.Errorf("%d rounds: %d", n, got)
		}
		for cut := range acts {
			got := calm.Fair(conf, w, acts[:cut]...)
			if want := roundsOf(w, acts[:cut]); got != want {
				t.Fatalf("cut off at %d: %d, not %d", cut, got, want)
			}
		}
		if w.Mails() != before || w.Up(2) {
			t.Fatal("the world changed")
		}
	}
	w := made(t, conf)
	if n := calm.Fair(conf, w); n != 0 {
		t.Error("no acts", n)
	}
}

// roundsOf counts the rounds of acts that are known to be fair, but for their being cut off in what mends.
func roundsOf(w *world.World, acts []api.Act) int {
	c, _ := w.Copy()
	ticks, rounds := 0, 0
	for _, a := range acts {
		c.Do(a)
		if a.Kind == api.ActTick {
			ticks++
		}
		if ticks == 6 && c.Mails() == 0 {
			ticks = 0
			rounds++
		}
	}
	for id := range 7 {
		if !c.Up(id) {
			return -1
		}
	}
	return rounds
}

// P27.2: acts that aren't fair.
func TestP27_2Unfair(t *testing.T) {
	six := []api.Act{tick(0, 0), tick(1, 1), tick(2, 2), tick(3, 0), tick(4, 1), tick(5, 2)}
	all := slices.Clone(six)
	for range 12 {
		all = append(all, deliver(0))
	}
	with := func(at int, acts ...api.Act) []api.Act {
		return slices.Insert(slices.Clone(all), at, acts...)
	}
	w := made(t, conf)
	if n := calm.Fair(conf, w, all...); n != 1 {
		t.Fatal(n)
	}
	two := slices.Concat(all, all) // nodes stand with the second tick: there are more letters, and the second round is cut off
	if n := calm.Fair(conf, w, two...); n != 1 {
		t.Error("cut off", n)
	}
	if n := calm.Fair(conf, w, append(two, tick(0, 0))...); n != -1 {
		t.Error("letters are left", n)
	}
	change := func(at int, a api.Act) []api.Act {
		list := slices.Clone(all)
		list[at] = a
		return list
	}
	for i, acts := range [][]api.Act{
		with(0, fuse(0, 0)), with(0, fuse(7, -1)), with(0, start(0)), with(0, crash(0)), with(0, deliver(0)),
		with(3, fuse(0, -1)), with(18, fuse(0, -1)), with(3, deliver(0)), with(6, tick(0, 0)), with(9, tick(0, 0)), with(6, tick(6, 0)),
		with(6, deliver(12)), with(6, deliver(-1)), with(18, deliver(0)),
		with(6, api.Act{Kind: api.ActDrop}), with(6, api.Act{Kind: api.ActTwin}), with(0, ask(0, api.Ask{Kind: api.AskList})), with(18, ask(0, api.Ask{Kind: api.AskList})), with(0, api.Act{Kind: api.ActFlip}), with(0, api.Act{Kind: api.ActLose}), with(0, api.Act{}), with(18, api.Act{Kind: 99}),
		change(1, tick(0, 0)), change(1, tick(0, 1)), change(1, tick(1, 0)), change(1, tick(1, 3)), change(1, tick(1, 2)), change(1, tick(1, -1)), change(4, tick(4, -3)), change(1, tick(6, 1)), change(1, tick(-1, 1)), change(5, deliver(0)),
		{crash(0), start(0)},
	} {
		if n := calm.Fair(conf, w, acts...); n != -1 {
			t.Errorf("%d: %d", i, n)
		}
	}
	for i, acts := range [][]api.Act{change(0, tick(0, 3)), change(0, tick(0, -3)), change(1, tick(1, -2)), change(1, tick(1, 3<<40+1)), slices.Concat([]api.Act{tick(5, 7), tick(2, 0), tick(3, 0), tick(0, 2), tick(4, -1), tick(1, 1)}, all[6:])} {
		if n := calm.Fair(conf, w, acts...); n != 1 {
			t.Errorf("fair %d: %d", i, n)
		}
	}
}

// P27.2: worlds behind which nothing is fair.
func TestP27_2UnfairWorlds(t *testing.T) {
	if n := calm.Fair(conf, nil); n != -1 {
		t.Error("no world", n)
	}
	for _, acts := range [][]api.Act{nil, {tick(0, 0)}} {
		if n := calm.Fair(api.Conf{}, made(t, conf), acts...); n != -1 {
			t.Error("no configuration", n)
		}
	}
	w := made(t, conf)
	do(t, w, crash(3))
	for _, acts := range [][]api.Act{nil, {fuse(0, -1)}, {tick(0, 0)}, {tick(0, 0), start(3)}, {start(3), crash(3)}} {
		if n := calm.Fair(conf, w, acts...); n != -1 {
			t.Error(acts, n)
		}
	}
	if n := calm.Fair(conf, w, start(3)); n != 0 {
		t.Error(n)
	}
	do(t, w, api.Act{Kind: api.ActLose, K: 0})
	if n := calm.Fair(conf, w, start(3)); n != -1 {
		t.Error("a site is lost", n)
	}
	blown := made(t, conf)
	do(t, blown, fuse(0, 0), tick(0, 0))
	if n := calm.Fair(conf, blown, tick(1, 1), tick(2, 2), tick(0, 0), tick(0, 0)); n != -1 {
		t.Error("a node's time goes on twice", n)
	}
	narrow := conf
	narrow.Spread = 2
	if n := calm.Fair(narrow, made(t, narrow), tick(0, 0), tick(1, 1), tick(2, 2)); n != -1 {
		t.Error("three draws of a spread of two", n)
	}
}

// ruled answers a calm world in which a put is at both sites, and how that came.
func ruled(t *testing.T) *world.World {
	t.Helper()
	w := made(t, conf)
	do(t, w, calm.Extend(w, 4)...)
	do(t, w, ask(leader(w, 0), api.Ask{Kind: api.AskReign}))
	do(t, w, calm.Extend(w, 8)...)
	do(t, w, ask(leader(w, 0), api.Ask{Kind: api.AskPut, Seq: 1, Name: "a", Data: "some data"}))
	do(t, w, calm.Extend(w, 20)...)
	return w
}

// P27.3: what is calm, and what isn't.
func TestP27_3Calm(t *testing.T) {
	if calm.Calm(nil) {
		t.Error("no world")
	}
	fresh := made(t, conf)
	if calm.Calm(fresh) {
		t.Error("nobody leads")
	}
	do(t, fresh, calm.Extend(fresh, 5)...)
	if !calm.Calm(fresh) {
		t.Error("one leads each site")
	}
	w := ruled(t)
	if !calm.Calm(w) {
		t.Fatal("a put is at both sites")
	}
	lead := leader(w, 0)
	for what, acts := range map[string][]api.Act{
		"a letter is on its way":       {tick(0, 0)},
		"a node isn't up":              {crash((lead + 1) % 3)},
		"the witness isn't up":         {crash(6)},
		"a site is lost":               {{Kind: api.ActLose, K: 1}},
		"nobody leads":                 {crash(lead), start(lead)},
		"a chunk is missed":            {{Kind: api.ActFlip, Node: lead, K: 0, Draw: 3}},
		"a request waits":              {ask(lead, api.Ask{Kind: api.AskList})},
		"a follower's ledger is empty": {crash((lead + 1) % 3), start((lead + 1) % 3)},
	} {
		v, _ := w.Copy()
		do(t, v, acts...)
		if what == "a request waits" {
			for v.Mails() > 0 {
				do(t, v, api.Act{Kind: api.ActDrop})
			}
		}
		if calm.Calm(v) {
			t.Error(what)
		}
	}
	v, _ := w.Copy()
	do(t, v, tick((lead+1)%3, 0))
	for v.Mails() > 1 {
		do(t, v, api.Act{Kind: api.ActDrop})
	}
	if calm.Calm(v) {
		t.Error("one letter is on its way")
	}
	do(t, v, api.Act{Kind: api.ActDrop})
	if !calm.Calm(v) || !calm.Calm(w) {
		t.Error("no letter is, and asking changes nothing")
	}
}

// P27.3: the fence is the witness' epoch, and all ledgers are one.
func TestP27_3Fence(t *testing.T) {
	w := ruled(t)
	lead := leader(w, 0)
	do(t, w, ask(leader(w, 1), api.Ask{Kind: api.AskReign}))
	if !calm.Calm(w) {
		t.Error("what is wanted alone is no change")
	}
	do(t, w, tick(leader(w, 1), 0))
	for w.Grant().Epoch < 2 {
		do(t, w, deliver(w.Mails()-1))
	}
	for w.Mails() > 0 {
		do(t, w, api.Act{Kind: api.ActDrop})
	}
	if calm.Calm(w) {
		t.Error("an epoch is granted, and no ledger has it")
	}
	v, _ := w.Copy()
	do(t, v, calm.Extend(v, 20)...)
	if !calm.Calm(v) || v.Ledger(lead).Fence() != 2 {
		t.Error("it begins", v.Ledger(lead).Fence())
	}
	do(t, v, ask(leader(v, 1), api.Ask{Kind: api.AskDrop, Seq: 5, Name: "a"}))
	for v.Mails() > 0 {
		do(t, v, deliver(0))
	}
	do(t, v, tick(leader(v, 1), 0))
	for v.Mails() > 0 {
		do(t, v, api.Act{Kind: api.ActDrop})
	}
	if calm.Calm(v) {
		t.Error("the sites have other operations")
	}
}
