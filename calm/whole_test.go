package calm_test

import (
	"math/rand"
	"slices"
	"testing"

	"redoubt/api"
	"redoubt/calm"
	"redoubt/ledger"
	"redoubt/model"
	"redoubt/world"
)

// who is a client's request.
type who struct{ client, seq int }

// watch sees a world do acts, and holds all that it tells against what is promised of the whole.
type watch struct {
	t       *testing.T
	seed    int
	conf    api.Conf
	w       *world.World
	m       *model.Model
	acts    int
	bytes   int
	seen    int              // replies
	replied map[int]int      // how often each request was
	asked   map[who]int      // how often each put or drop was
	refused map[who]int      // which ones were, but as unsure
	floors  []map[int]int    // by request: up to where its site had told by then, by epoch
	told    [2]map[int]int   // up to where each site told, by epoch
	reigns  map[int]api.Spot // where each epoch began
	sites   map[int]int      // whose operations each epoch's are
	fences  [6]int           // of those that are up
	crashed [2]bool
	grant   api.Grant
	sync    map[api.Spot]api.Ask // what was answered OK, by mode
	async   map[api.Spot]int     // and at which site
}

func newWatch(t *testing.T, seed int, c api.Conf) *watch {
	return &watch{t: t, seed: seed, conf: c, w: made(t, c), m: model.New(), replied: map[int]int{}, asked: map[who]int{}, refused: map[who]int{}, told: [2]map[int]int{{}, {}}, reigns: map[int]api.Spot{}, sites: map[int]int{}, sync: map[api.Spot]api.Ask{}, async: map[api.Spot]int{}}
}

func (x *watch) fail(what string, args ...any) {
	x.t.Helper()
	x.t.Fatal(append([]any{"seed", x.seed, what}, args...)...)
}

func (x *watch) do(acts ...api.Act) {
	x.t.Helper()
	for _, a := range acts {
		x.before(a)
		x.w.Do(a)
		if x.acts++; x.acts%6 == 0 || a.Kind == api.ActStart || len(x.w.Replies()) > x.seen {
			x.look() // what a reply tells of may be gone soon
		}
	}
}

// look sees what came of the last few acts.
func (x *watch) look() {
	x.t.Helper()
	x.ledgers()
	x.replies()
	x.grants()
}

func (x *watch) before(a api.Act) {
	if a.Node >= 0 && a.Node < 6 {
		switch a.Kind {
		case api.ActCrash, api.ActFuse:
			x.crashed[a.Node/3] = true
		case api.ActStart: // what it had heard of it may have to hear again
			x.fences[a.Node] = 0
		}
	}
	if a.Kind != api.ActAsk || a.Node < 0 || a.Node > 5 {
		return
	}
	x.m.Asked(a.Ask)
	x.bytes += len(a.Ask.Data)
	if a.Ask.Kind <= api.AskDrop {
		x.asked[who{a.Ask.Client, a.Ask.Seq}]++
	}
	floor := map[int]int{}
	for epoch, n := range x.told[a.Node/3] {
		floor[epoch] = n
	}
	x.floors = append(x.floors, floor)
}

// ledgers checks P1 and P2 of all that the nodes have.
func (x *watch) ledgers() {
	x.t.Helper()
	for id := range 6 {
		l := x.w.Ledger(id)
		if l == nil {
			x.fences[id] = 0
			continue
		}
		if l.Fence() < x.fences[id] || l.Fence() > x.w.Grant().Epoch && x.w.Up(6) {
			x.fail("a fence", id, l.Fence(), x.fences[id], x.w.Grant())
		}
		x.fences[id] = l.Fence()
		ops := l.Ops()
		if e := x.m.See(ops...); e != api.OK {
			x.fail("the tree", id, e)
		}
		x.operations(ops)
	}
}

func (x *watch) operations(ops []api.Op) {
	x.t.Helper()
	done := map[who]int{}
	for _, o := range ops {
		if site, ok := x.sites[o.Epoch]; ok && site != o.Site {
			x.fail("an epoch of two sites", o)
		}
		x.sites[o.Epoch] = o.Site
		place := api.Spot{N: o.N, Epoch: o.Epoch}
		if o.Kind == api.OpReign {
			if at, ok := x.reigns[o.Epoch]; ok && at != place {
				x.fail("an epoch begins twice", at, place)
			}
			x.reigns[o.Epoch] = place
			continue
		}
		by := who{o.Client, o.Seq}
		if done[by]++; done[by] > 1 {
			x.fail("a request is done twice", o)
		}
		if x.refused[by] > 0 && x.asked[by] == 1 {
			x.fail("what was refused is there", o)
		}
	}
}

// grants checks P2 of the witness.
func (x *watch) grants() {
	x.t.Helper()
	if !x.w.Up(6) {
		return
	}
	g := x.w.Grant()
	if g != x.grant && g.Epoch != x.grant.Epoch+1 {
		x.fail("grants", x.grant, g)
	}
	if site, ok := x.sites[g.Epoch]; ok && site != g.Site {
		x.fail("an epoch of the other site", g)
	}
	x.grant = g
}

// replies checks P1 and P3 of what was answered.
func (x *watch) replies() {
	x.t.Helper()
	list, asks := x.w.Replies(), x.w.Asks()
	for ; x.seen < len(list); x.seen++ {
		r := list[x.seen]
		a := asks[r.Ask]
		if x.replied[r.Ask]++; x.replied[r.Ask] > 1 {
			x.fail("two replies", r)
		}
		if e := x.m.Judge(a, r); e != api.OK {
			x.fail("a reply", a, r, e)
		}
		changes := a.Kind == api.AskPut || a.Kind == api.AskDrop
		switch {
		case changes && r.Err == api.OK:
			x.change(a, r)
		case changes && r.Err != api.ErrUnsure:
			x.refused[who{a.Client, a.Seq}]++
		case a.Kind == api.AskList && r.Err == api.OK:
			x.list(r)
		}
	}
}

// list checks that a list tells of no less than the same site had told of before it was asked for, in the same epoch.
func (x *watch) list(r api.Reply) {
	x.t.Helper()
	if r.At.N < x.floors[r.Ask][r.At.Epoch] {
		x.fail("a list of less than before", r, x.floors[r.Ask])
	}
}

// change checks how far a put or drop is that was answered OK.
func (x *watch) change(a api.Ask, r api.Reply) {
	x.t.Helper()
	path, _ := x.m.Path(r.At)
	site := path[len(path)-1].Site
	x.told[site][r.At.Epoch] = max(x.told[site][r.At.Epoch], r.At.N)
	x.async[r.At] = site
	need := 0
	switch a.Mode {
	case api.ModeSync:
		x.sync[r.At] = a
		need = r.At.N
	case api.ModeLag:
		need = r.At.N - a.Lag - 1 // itself comes on top
		if a.Lag == 0 {
			need = r.At.N
		}
	}
	if far := 1 - site; !x.crashed[far] && x.w.Lost() != far && x.farHas(far, path) < need {
		x.fail("not far enough", a, r)
	}
}

// farHas answers up to where a site has the operations of a path.
func (x *watch) farHas(site int, path []api.Op) int {
	most := 0
	for id := 3 * site; id < 3*site+3; id++ {
		ops := x.w.Ledger(id).Ops()
		n := 0
		for n < min(len(ops), len(path)) && ops[n].Epoch == path[n].Epoch {
			n++
		}
		most = max(most, n)
	}
	return most
}

// chaos does so many acts of any kind.
func (x *watch) chaos(rnd *rand.Rand, n int, flips bool) {
	x.t.Helper()
	c := &chaos{rnd: rnd, w: x.w, flips: flips, seq: 1}
	for range n {
		x.do(c.next()...)
	}
	x.look()
}

// round is a fair round, in any order, of those that aren't lost.
func (x *watch) round(rnd *rand.Rand) {
	x.t.Helper()
	draws := [2][]int{rnd.Perm(x.conf.Spread), rnd.Perm(x.conf.Spread)}
	for _, id := range rnd.Perm(6) {
		x.do(tick(id, draws[id/3][id%3]))
	}
	for x.w.Mails() > 0 {
		k := 0
		if rnd.Intn(2) == 0 {
			k = rnd.Intn(x.w.Mails())
		}
		x.do(deliver(k))
	}
	x.look()
}

// settle plays fair rounds till it stays calm, and checks that this is within the bound.
func (x *watch) settle(rnd *rand.Rand) {
	x.t.Helper()
	const stays = 8
	bound := calm.Bound(x.conf, len(x.w.Asks())+16, x.bytes)
	streak, n := 0, 0
	for streak < stays && n < min(bound, 1200)+stays-1 {
		x.round(rnd)
		n++
		if calm.Calm(x.w) {
			streak++
		} else {
			streak = 0
		}
	}
	if streak < stays {
		for id := range 6 {
			l := x.w.Ledger(id)
			x.t.Log(id, x.w.Leads(id), l.Last(), l.Fence(), x.w.Misses(id), x.w.Waits(id))
		}
		x.fail("not calm", n, bound)
	}
}

// stayed checks P3 and P4: what was answered OK is there, or, if it wasn't in mode sync, is told as lost.
func (x *watch) stayed() {
	x.t.Helper()
	for at, site := range x.async {
		l := x.w.Ledger(3 * site)
		if has(l, at) {
			continue
		}
		if _, sync := x.sync[at]; sync {
			x.fail("answered in sync, and lost", at)
		}
		if !slices.ContainsFunc(l.Lost(), func(o api.Op) bool { return o.N == at.N && o.Epoch == at.Epoch }) {
			x.fail("silently gone", at)
		}
	}
}

func has(l *ledger.Ledger, at api.Spot) bool {
	return slices.ContainsFunc(l.Ops(), func(o api.Op) bool { return o.N == at.N && o.Epoch == at.Epoch })
}

// answered asks a site's leader, and plays rounds till it is answered.
func (x *watch) answered(rnd *rand.Rand, site int, a api.Ask) api.Reply {
	x.t.Helper()
	number := len(x.w.Asks())
	x.do(ask(leader(x.w, site), a))
	for range 300 {
		for _, r := range x.w.Replies() {
			if r.Ask == number {
				return r
			}
		}
		x.round(rnd)
	}
	x.fail("not answered", a)
	return api.Reply{}
}

// P27.4 and P1 to P5: behind any acts by which no site is lost and no bit turned it is calm in time, nothing is gone, and requests are answered.
func TestP27_4Calm(t *testing.T) {
	for seed := range 30 {
		rnd := rand.New(rand.NewSource(int64(seed)))
		x := newWatch(t, seed, someConf(rnd))
		x.chaos(rnd, 200+rnd.Intn(1500), false)
		x.do(calm.Extend(x.w, 0)...)
		x.settle(rnd)
		x.stayed()
		primary := x.w.Ledger(0).Holder()
		if primary.Epoch == 0 {
			continue
		}
		before := x.w.Ledger(0)
		r := x.answered(rnd, primary.Site, api.Ask{Kind: api.AskPut, Client: 7, Seq: 1, Name: "behind all", Data: "data", Mode: api.ModeSync})
		room := len(before.Ops()) < x.conf.Ops && before.Used()+4 <= x.conf.Quota
		if room && r.Err != api.OK || !room && r.Err != api.ErrSaturated && r.Err != api.ErrQuota {
			x.fail("a put when all is calm", r)
		}
		if room {
			for site := range 2 {
				if r := x.answered(rnd, site, api.Ask{Kind: api.AskRestore, Name: "behind all"}); r.Err != api.OK || r.Data != "data" {
					x.fail("a restore when all is calm", r)
				}
			}
		}
		x.settle(rnd)
		x.stayed()
	}
}

// P27.4: what Extend answers is fair, behind any world, as many rounds as was said, and ends in calm.
func TestP27_4Extend(t *testing.T) {
	for seed := range 8 {
		rnd := rand.New(rand.NewSource(int64(1000 + seed)))
		x := newWatch(t, seed, someConf(rnd))
		x.chaos(rnd, 200+rnd.Intn(600), rnd.Intn(2) == 0)
		for _, rounds := range []int{0, 1, 7} {
			if n := calm.Fair(x.conf, x.w, calm.Extend(x.w, rounds)...); n != rounds {
				x.fail("extended", n, rounds)
			}
		}
	}
	w := ruled(t)
	do(t, w, tick(0, 0), crash(1), crash(2), crash(6))
	acts := calm.Extend(w, 60)
	if n := calm.Fair(conf, w, acts...); n != 60 {
		t.Error(n)
	}
	do(t, w, acts...)
	if !calm.Calm(w) {
		t.Error("not calm")
	}
}

// P3, P5: a site is lost for ever; what was answered in sync is at the other one, and requests are answered there.
func TestP3Lost(t *testing.T) {
	for seed := range 25 {
		rnd := rand.New(rand.NewSource(int64(2000 + seed)))
		x := newWatch(t, seed, someConf(rnd))
		x.chaos(rnd, 300+rnd.Intn(1000), false)
		gone := rnd.Intn(2)
		left := 1 - gone
		x.do(api.Act{Kind: api.ActLose, K: gone})
		x.chaos(rnd, rnd.Intn(300), false)
		for id := range 7 {
			x.do(fuse(id, -1))
			if !x.w.Up(id) {
				x.do(start(id))
			}
		}
		for n := 0; n < 300 && (n < 30 || leader(x.w, left) < 0); n++ {
			x.round(rnd)
		}
		r := x.answered(rnd, left, api.Ask{Kind: api.AskReign})
		if r.Err != api.OK && r.Err != api.ErrSaturated {
			x.fail("a reign", r)
		}
		for range 20 {
			x.round(rnd)
		}
		l := x.w.Ledger(leader(x.w, left))
		for at, a := range x.sync {
			if !has(l, at) {
				x.fail("answered in sync, and lost with a site", at)
			}
			o, live := x.m.Find(l.Last(), a.Name)
			if a.Kind != api.AskPut || !live || o.N != at.N || o.Epoch != at.Epoch {
				continue
			}
			if r := x.answered(rnd, left, api.Ask{Kind: api.AskRestore, Name: a.Name}); r.Err != api.OK {
				x.fail("answered in sync, and not restored", r)
			}
		}
		full := x.w.Waits(leader(x.w, left)) >= api.MaxPending // of what waits for the lost site
		if r.Err == api.OK && !full && len(l.Ops()) < x.conf.Ops && l.Used()+4 <= x.conf.Quota {
			if r := x.answered(rnd, left, api.Ask{Kind: api.AskPut, Client: 7, Seq: 1, Name: "behind all", Data: "data"}); r.Err != api.OK {
				x.fail("a put where a site is lost", r)
			}
		}
	}
}

// P1, P2: also where bits of chunks turn, and a site is lost: bytes that are restored are those that were put, or an error is told.
func TestP1Flips(t *testing.T) {
	for seed := range 25 {
		rnd := rand.New(rand.NewSource(int64(3000 + seed)))
		x := newWatch(t, seed, someConf(rnd))
		x.chaos(rnd, 300+rnd.Intn(900), true)
		if rnd.Intn(3) == 0 {
			x.do(api.Act{Kind: api.ActLose, K: rnd.Intn(2)})
			x.chaos(rnd, 200, true)
		}
	}
}
