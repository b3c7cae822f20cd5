package world

import (
	"slices"

	"redoubt/api"
)

// Do does an act of a script.
func (w *World) Do(a api.Act) api.Errno {
	if w == nil {
		return api.ErrNil
	}
	a.Keeps = slices.Clone(a.Keeps)
	w.acts = append(w.acts, a)
	switch a.Kind {
	case api.ActAsk:
		return w.ask(a)
	case api.ActDeliver:
		return w.deliver(a)
	case api.ActDrop:
		_, e := w.Take(a.K)
		return e
	case api.ActTwin:
		return w.Twin(a.K)
	case api.ActTick:
		return w.tick(a)
	case api.ActCrash:
		return w.crash(a)
	case api.ActStart:
		return w.start(a)
	case api.ActFuse:
		return w.fuse(a)
	case api.ActLose:
		return w.lose(a)
	case api.ActFlip:
		return w.flip(a)
	}
	return api.ErrArg
}

func (w *World) isLost(id int) bool {
	return w.lost != none && isNode(id) && id/api.PerSite == w.lost
}

// refuses answers why nothing can happen to a node, or the witness.
func (w *World) refuses(id int) api.Errno {
	switch {
	case !isNode(id) && id != api.Witness:
		return api.ErrArg
	case w.isLost(id):
		return api.ErrDenied
	}
	return api.OK
}

// did takes what a node said.
func (w *World) did(id int, replies []api.Reply, letters []api.Letter) {
	w.replies = append(w.replies, replies...)
	w.said(id, letters...)
}

func (w *World) ask(a api.Act) api.Errno {
	if !isNode(a.Node) {
		return api.ErrArg
	}
	number := len(w.asks)
	w.asks = append(w.asks, a.Ask)
	if !w.isUp(a.Node) {
		w.replies = append(w.replies, api.Reply{Ask: number, Err: api.ErrDown})
		return api.OK
	}
	replies, letters := w.nodes[a.Node].Ask(number, a.Ask)
	w.did(a.Node, replies, letters)
	return api.OK
}

func (w *World) deliver(a api.Act) api.Errno {
	l, e := w.Take(a.K)
	if e != api.OK || !w.isUp(l.To) {
		return e
	}
	if l.To == api.Witness {
		w.said(l.To, w.grantOf(l)...)
		return api.OK
	}
	replies, letters := w.nodes[l.To].Take(l)
	w.did(l.To, replies, letters)
	return api.OK
}

func (w *World) tick(a api.Act) api.Errno {
	if !isNode(a.Node) {
		return api.ErrArg
	}
	if !w.isUp(a.Node) {
		return api.ErrDown
	}
	replies, letters := w.nodes[a.Node].Tick(a.Draw)
	w.did(a.Node, replies, letters)
	return api.OK
}

func (w *World) crash(a api.Act) api.Errno {
	if e := w.refuses(a.Node); e != api.OK {
		return e
	}
	w.drives[a.Node].Crash(a.Keeps...)
	w.close(a.Node)
	return api.OK
}

func (w *World) start(a api.Act) api.Errno {
	if e := w.refuses(a.Node); e != api.OK {
		return e
	}
	if w.isUp(a.Node) {
		return api.ErrThere
	}
	w.drives[a.Node].Crash(a.Keeps...)
	return w.open(w.conf, a.Node)
}

func (w *World) fuse(a api.Act) api.Errno {
	if e := w.refuses(a.Node); e != api.OK {
		return e
	}
	w.drives[a.Node].Fuse(a.K)
	return api.OK
}

func (w *World) lose(a api.Act) api.Errno {
	if a.K < 0 || a.K >= api.Sites {
		return api.ErrArg
	}
	if w.lost != none {
		return api.ErrDenied
	}
	w.lost = a.K
	var gone []int
	for id := a.K * api.PerSite; id < (a.K+1)*api.PerSite; id++ {
		w.close(id)
		gone = append(gone, id)
	}
	w.Purge(gone...)
	return api.OK
}

func (w *World) flip(a api.Act) api.Errno {
	if !isNode(a.Node) {
		return api.ErrArg
	}
	if w.isLost(a.Node) {
		return api.ErrDenied
	}
	d := w.drives[a.Node]
	names := d.Names(chunks)
	if len(names) == 0 || a.K < 0 || a.Draw < 0 {
		return api.ErrNone
	}
	name := names[a.K%len(names)]
	data, _ := d.Read(name)
	if data == "" {
		return api.ErrNone
	}
	return d.Flip(name, a.Draw%(8*len(data)))
}
