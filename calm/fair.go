package calm

import (
	"redoubt/api"
	"redoubt/world"
)

// player plays acts in a world of its own, and sees whether they are fair.
type player struct {
	*world.World
	spread int
	mended bool       // the acts to mend are over
	ticked [nodes]int // of this round: 1 where a node's time went on
	rests  [nodes]int // and which part of Spread was its draw
	ticks  int
	rounds int
}

// Fair answers how many fair rounds acts have to their end, behind a world; -1 if they aren't fair.
func Fair(c api.Conf, w *world.World, acts ...api.Act) int {
	if w == nil || w.Lost() != none || c.Spread < 1 {
		return none
	}
	twin, e := w.Copy()
	if e != api.OK {
		return none
	}
	p := &player{World: twin, spread: c.Spread}
	for _, a := range acts {
		if !p.plays(a) {
			return none
		}
	}
	if !p.mended && !allUp(p.World) {
		return none
	}
	return p.rounds
}

// plays does an act, and answers whether it is fair there.
func (p *player) plays(a api.Act) bool {
	switch a.Kind {
	case api.ActFuse, api.ActStart:
		return p.mends(a)
	case api.ActTick:
		return p.startsRounds() && p.ticksOnce(a) && p.Do(a) == api.OK && p.endsRound()
	case api.ActDeliver:
		return p.ticks == nodes && p.Do(a) == api.OK && p.endsRound()
	}
	return false
}

func (p *player) mends(a api.Act) bool {
	if p.mended || a.Kind == api.ActFuse && a.K >= 0 {
		return false
	}
	return p.Do(a) == api.OK
}

// startsRounds answers whether the acts to mend are over, or may be now.
func (p *player) startsRounds() bool {
	if !p.mended {
		p.mended = allUp(p.World)
	}
	return p.mended
}

// ticksOnce answers whether a node's time may go on in this round, with that draw.
func (p *player) ticksOnce(a api.Act) bool {
	if a.Node < 0 || a.Node >= nodes || p.ticked[a.Node] > 0 {
		return false
	}
	rest := (a.Draw%p.spread + p.spread) % p.spread
	site := a.Node / api.PerSite * api.PerSite
	for mate := site; mate < site+api.PerSite; mate++ {
		if p.ticked[mate] > 0 && p.rests[mate] == rest {
			return false
		}
	}
	p.ticked[a.Node], p.rests[a.Node] = 1, rest
	p.ticks++
	return true
}

// endsRound counts a round when all ticks were, and no letter is left; it is always true.
func (p *player) endsRound() bool {
	if p.ticks == nodes && p.Mails() == 0 {
		p.rounds++
		p.ticks, p.ticked = 0, [nodes]int{}
	}
	return true
}

// Extend answers acts that mend a world, and behind that are so many fair rounds.
func Extend(w *world.World, rounds int) []api.Act {
	if w == nil || w.Lost() != none {
		return nil
	}
	twin, e := w.Copy()
	if e != api.OK {
		return nil
	}
	var acts []api.Act
	do := func(a api.Act) {
		twin.Do(a)
		acts = append(acts, a)
	}
	for id := range machines {
		do(api.Act{Kind: api.ActFuse, Node: id, K: none})
	}
	for id := range machines {
		if !twin.Up(id) {
			do(api.Act{Kind: api.ActStart, Node: id})
		}
	}
	for range min(rounds, maxRounds) {
		for id := range nodes {
			do(api.Act{Kind: api.ActTick, Node: id, Draw: id})
		}
		for twin.Mails() > 0 {
			do(api.Act{Kind: api.ActDeliver})
		}
	}
	return acts
}
