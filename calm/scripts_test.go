package calm_test

import (
	"math/rand"
	"strconv"

	"redoubt/api"
	"redoubt/world"
)

// someConf answers any configuration, most often one under which something goes wrong soon.
func someConf(rnd *rand.Rand) api.Conf {
	return api.Conf{Quota: 200 + rnd.Intn(8000), Ops: 10 + rnd.Intn(55), Epochs: 1 + rnd.Intn(16), Rate: 1 + rnd.Intn(200), Burst: 64 + rnd.Intn(400), Base: 2 + rnd.Intn(4), Spread: 3 + rnd.Intn(4), Snap: 1 + rnd.Intn(12)}
}

// chaos makes acts: for some time it is of one kind, then of another one.
type chaos struct {
	rnd   *rand.Rand
	w     *world.World
	flips bool
	seq   int
	left  int // acts of the kind of now

	tick, deliver, drop, twin, ask, crash, start, fuse, lookback, quiet int
}

func (c *chaos) turn() {
	n := c.rnd.Intn
	c.tick, c.deliver, c.ask, c.left, c.lookback = 2+n(6), 60+n(80), 2+n(8), 50+n(300), 1+n(6)
	c.drop, c.twin, c.crash, c.fuse, c.start = 0, 0, 0, 0, 5+n(10)
	c.quiet = []int{4, 20, 200}[n(3)]
	if n(2) == 0 {
		c.drop, c.twin = n(10), n(5)
	}
	if n(2) == 0 {
		c.crash, c.fuse = n(3), n(3)
	}
}

// next answers the acts that come next.
func (c *chaos) next() []api.Act {
	if c.left--; c.left < 0 {
		c.turn()
	}
	n := c.rnd.Intn
	if n(1000) == 0 { // all power goes at one time
		var all []api.Act
		for id := range 7 {
			all = append(all, crash(id))
		}
		return all
	}
	if n(c.quiet) == 0 { // for a while things go as they should
		var some []api.Act
		for id := range 6 {
			some = append(some, tick(id, id))
		}
		for range n(80) {
			some = append(some, deliver(0))
		}
		return some
	}
	if c.flips && n(40) == 0 {
		return []api.Act{{Kind: api.ActFlip, Node: n(6), K: n(20), Draw: n(512)}}
	}
	return []api.Act{c.one()}
}

func (c *chaos) one() api.Act {
	n := c.rnd.Intn
	k := 0
	if mails := c.w.Mails(); mails > 0 && n(c.lookback) == 0 {
		k = n(mails)
	}
	keeps := []int{n(50), n(9)}
	x := n(c.tick + c.deliver + c.drop + c.twin + c.ask + c.crash + c.start + c.fuse)
	is := func(share int) bool { x -= share; return x < 0 }
	switch {
	case is(c.deliver):
		return deliver(k)
	case is(c.drop):
		return api.Act{Kind: api.ActDrop, K: k}
	case is(c.twin):
		return api.Act{Kind: api.ActTwin, K: k}
	case is(c.ask):
		return c.someAsk()
	case is(c.crash):
		return api.Act{Kind: api.ActCrash, Node: n(7), Keeps: keeps}
	case is(c.start):
		for id := range 7 {
			if !c.w.Up(id) && (c.w.Lost() < 0 || id == 6 || id/3 != c.w.Lost()) {
				return api.Act{Kind: api.ActStart, Node: id, Keeps: keeps}
			}
		}
	case is(c.fuse):
		return fuse(n(7), n(20))
	}
	return tick(n(6), n(7))
}

// someAsk asks most often where it may be answered.
func (c *chaos) someAsk() api.Act {
	n := c.rnd.Intn
	c.seq += n(8) / 2
	kind := []int{1, 1, 1, 1, 1, 2, 2, 3, 4, 6}[n(10)]
	id := n(6)
	if site := n(2); n(9) > 0 && leader(c.w, site) >= 0 {
		id = leader(c.w, site)
		if h := c.w.Ledger(id).Holder(); h.Epoch == 0 && n(3) == 0 || n(20) == 0 {
			kind = api.AskReign
		} else if other := leader(c.w, h.Site); other >= 0 && n(3) > 0 {
			id = other
		}
	}
	data := make([]byte, n(200))
	if n(10) == 0 {
		data = make([]byte, n(600))
	}
	for i := range data {
		data[i] = byte(n(2)) + byte(i/64)
	}
	return ask(id, api.Ask{Kind: kind, Client: n(3), Seq: c.seq, Name: "n" + strconv.Itoa(n(10)), Data: string(data), Mode: n(3), Lag: n(3)})
}
