package world_test

import (
	"slices"
	"strings"
	"testing"

	"redoubt/api"
	"redoubt/deed"
	"redoubt/node"
	"redoubt/world"
)

var conf = api.Conf{Quota: 4000, Ops: 64, Epochs: 3, Rate: 100, Burst: 1000, Base: 2, Spread: 3, Snap: 20}

func made(t *testing.T) *world.World {
	t.Helper()
	w, e := world.New(conf)
	if e != api.OK || w == nil {
		t.Fatal("New", e)
	}
	return w
}

func do(t *testing.T, w *world.World, a api.Act, e api.Errno) {
	t.Helper()
	if got := w.Do(a); got != e {
		t.Errorf("%+v: %d, not %d", a, got, e)
	}
}

func tick(id int) api.Act { return api.Act{Kind: api.ActTick, Node: id, Draw: id} }

func deliver(k int) api.Act { return api.Act{Kind: api.ActDeliver, K: k} }

func ask(id int, a api.Ask) api.Act { return api.Act{Kind: api.ActAsk, Node: id, Ask: a} }

func put(name, data string, seq, mode int) api.Ask {
	return api.Ask{Kind: api.AskPut, Client: 1, Seq: seq, Name: name, Data: data, Mode: mode}
}

// rounds lets time go on at all that are up, and all letters come, so often.
func rounds(t *testing.T, w *world.World, n int) {
	t.Helper()
	for range n {
		for id := range 6 {
			if w.Up(id) {
				do(t, w, tick(id), api.OK)
			}
		}
		for w.Mails() > 0 {
			do(t, w, deliver(0), api.OK)
		}
	}
}

func leader(t *testing.T, w *world.World, site int) int {
	t.Helper()
	for id := 3 * site; id < 3*site+3; id++ {
		if w.Leads(id) {
			return id
		}
	}
	t.Fatal("nobody leads site", site)
	return 0
}

// ruled answers a world in which site 0 is the primary one.
func ruled(t *testing.T) *world.World {
	t.Helper()
	w := made(t)
	rounds(t, w, 4)
	do(t, w, ask(leader(t, w, 0), api.Ask{Kind: api.AskReign}), api.OK)
	rounds(t, w, 8)
	if w.Grant() != (api.Grant{Epoch: 1}) {
		t.Fatal(w.Grant())
	}
	return w
}

func last(w *world.World) api.Reply {
	list := w.Replies()
	if len(list) == 0 {
		return api.Reply{Ask: -1}
	}
	return list[len(list)-1]
}

// P24.1: a world in which all are up.
func TestP24_1New(t *testing.T) {
	w := made(t)
	for id := range 7 {
		if !w.Up(id) {
			t.Error(id, "isn't up")
		}
		if w.Leads(id) || w.Waits(id) != 0 || w.Misses(id) != 0 || id < 6 && len(w.Ledger(id).Ops()) != 0 {
			t.Error(id, "has something")
		}
	}
	if w.Lost() != -1 || w.Mails() != 0 || w.Grant() != (api.Grant{}) || len(w.Replies()) != 0 || len(w.Asks()) != 0 {
		t.Error("a new world has something")
	}
	for _, c := range []api.Conf{{}, {Quota: 1, Ops: 1, Epochs: 17, Rate: 1, Burst: 64, Base: 2, Spread: 1, Snap: 1}} {
		if w, e := world.New(c); w != nil || e != node.Check(c) || e != api.ErrArg {
			t.Error(c, e)
		}
	}
}

// P24.1, P24.2: room for 512 letters; those for which there is none are lost.
func TestP24_1Room(t *testing.T) {
	w := made(t)
	do(t, w, tick(0), api.OK)
	for w.Mails() < 512 {
		do(t, w, api.Act{Kind: api.ActTwin}, api.OK)
	}
	do(t, w, api.Act{Kind: api.ActTwin}, api.ErrFull)
	do(t, w, api.Act{Kind: api.ActTwin, K: 512}, api.ErrNone)
	do(t, w, tick(3), api.OK)
	if w.Mails() != 512 {
		t.Error(w.Mails())
	}
	do(t, w, api.Act{Kind: api.ActDrop}, api.OK)
	do(t, w, tick(4), api.OK)
	if w.Mails() != 512 {
		t.Error(w.Mails())
	}
}

// P24.2: letters come, are lost, are there twice.
func TestP24_2Letters(t *testing.T) {
	w := made(t)
	for _, kind := range []int{api.ActDeliver, api.ActDrop, api.ActTwin} {
		for _, k := range []int{0, -1, 5} {
			do(t, w, api.Act{Kind: kind, K: k}, api.ErrNone)
		}
	}
	do(t, w, tick(0), api.OK)
	do(t, w, tick(0), api.OK)
	if w.Mails() != 6 { // of the node: how far it is whole, twice; and that it stands
		t.Fatal(w.Mails())
	}
	for range 2 {
		do(t, w, api.Act{Kind: api.ActDrop}, api.OK)
	}
	do(t, w, deliver(0), api.OK)
	if w.Mails() != 4 {
		t.Error("node 1 votes", w.Mails())
	}
	do(t, w, deliver(3), api.OK)
	if !w.Leads(0) {
		t.Error("node 0 leads behind that vote")
	}
	do(t, w, deliver(99), api.ErrNone)
	do(t, w, api.Act{Kind: api.ActCrash, Node: 2}, api.OK)
	before := w.Mails()
	do(t, w, deliver(0), api.OK)
	if w.Mails() != before-1 {
		t.Error("a letter to who isn't up is lost", w.Mails(), before)
	}
}

// P24.2: a twin comes twice.
func TestP24_2Twin(t *testing.T) {
	w := made(t)
	do(t, w, tick(0), api.OK)
	do(t, w, tick(0), api.OK)
	do(t, w, api.Act{Kind: api.ActTwin, K: 2}, api.OK)
	if w.Mails() != 7 {
		t.Fatal(w.Mails())
	}
	do(t, w, deliver(2), api.OK)
	do(t, w, deliver(5), api.OK)
	if w.Mails() != 7 {
		t.Error("two votes", w.Mails())
	}
}

// P24.2: time goes on at nodes that are up.
func TestP24_2Tick(t *testing.T) {
	w := made(t)
	for _, id := range []int{-1, 6, 7, 1 << 40} {
		do(t, w, tick(id), api.ErrArg)
	}
	for id := range 6 {
		do(t, w, tick(id), api.OK)
	}
	if w.Mails() != 12 {
		t.Error(w.Mails())
	}
	do(t, w, api.Act{Kind: api.ActCrash, Node: 1}, api.OK)
	do(t, w, tick(1), api.ErrDown)
	// The draw says how long a candidate waits: Base and the rest of it by Spread.
	for draw, ticks := range map[int]int{0: 2, 1: 3, 2: 4, 3: 2, -1: 4} {
		w := made(t)
		do(t, w, tick(0), api.OK)
		do(t, w, api.Act{Kind: api.ActTick, Node: 0, Draw: draw}, api.OK)
		for n := 1; ; n++ {
			before := w.Mails()
			do(t, w, tick(0), api.OK)
			if w.Mails() == before+4 { // it stands again, and says how far it is whole
				if n != ticks {
					t.Error(draw, n)
				}
				break
			}
		}
	}
}

// P24.2: requests have numbers, also those to who isn't up.
func TestP24_2Ask(t *testing.T) {
	w := made(t)
	for _, id := range []int{-1, 6, 99} {
		do(t, w, ask(id, api.Ask{Kind: api.AskList}), api.ErrArg)
	}
	if len(w.Asks()) != 0 || len(w.Replies()) != 0 {
		t.Error("a request that nobody could ask")
	}
	do(t, w, ask(1, api.Ask{Kind: api.AskList}), api.OK)
	do(t, w, api.Act{Kind: api.ActCrash, Node: 2}, api.OK)
	do(t, w, ask(2, put("a", "x", 1, 0)), api.OK)
	do(t, w, ask(3, api.Ask{Kind: 9}), api.OK)
	want := []api.Errno{api.ErrFollower, api.ErrDown, api.ErrArg}
	for i, r := range w.Replies() {
		if r.Ask != i || r.Err != want[i] {
			t.Error(i, r)
		}
	}
	if a := w.Asks(); len(w.Replies()) != 3 || !slices.Equal(a, []api.Ask{{Kind: api.AskList}, put("a", "x", 1, 0), {Kind: 9}}) {
		t.Error(a)
	}
}

// P24.2: power goes and comes.
func TestP24_2CrashStart(t *testing.T) {
	w := made(t)
	for _, kind := range []int{api.ActCrash, api.ActStart, api.ActFuse} {
		for _, id := range []int{-1, 7, 1 << 40} {
			do(t, w, api.Act{Kind: kind, Node: id}, api.ErrArg)
		}
	}
	for id := range 7 {
		do(t, w, api.Act{Kind: api.ActStart, Node: id}, api.ErrThere)
		do(t, w, api.Act{Kind: api.ActCrash, Node: id}, api.OK)
		if w.Up(id) {
			t.Error(id, "is up")
		}
		do(t, w, api.Act{Kind: api.ActCrash, Node: id}, api.OK)
		do(t, w, api.Act{Kind: api.ActStart, Node: id}, api.OK)
		if !w.Up(id) {
			t.Error(id, "isn't up")
		}
		do(t, w, api.Act{Kind: api.ActStart, Node: id}, api.ErrThere)
	}
	rounds(t, w, 5)
	if w.Mails() != 0 {
		t.Error(w.Mails())
	}
}

// P24.2: what waits on a drive stays as far as Keeps says.
func TestP24_2Keeps(t *testing.T) {
	for _, kind := range []int{api.ActCrash, api.ActStart} {
		for _, keep := range []int{0, 99} {
			w := made(t)
			rounds(t, w, 4)
			do(t, w, api.Act{Kind: api.ActFuse, Node: 6, K: 1}, api.OK)
			do(t, w, ask(leader(t, w, 0), api.Ask{Kind: api.AskReign}), api.OK)
			rounds(t, w, 1)
			if w.Up(6) || w.Grant() != (api.Grant{}) {
				t.Fatal("the witness' power goes ahead of its sync")
			}
			if kind == api.ActCrash {
				do(t, w, api.Act{Kind: kind, Node: 6, Keeps: []int{keep}}, api.OK)
				do(t, w, api.Act{Kind: api.ActStart, Node: 6}, api.OK)
			} else {
				do(t, w, api.Act{Kind: kind, Node: 6, Keeps: []int{keep}}, api.OK)
			}
			want := api.Grant{}
			if keep > 0 {
				want.Epoch = 1
			}
			if w.Grant() != want {
				t.Error(kind, keep, w.Grant())
			}
		}
	}
}

// P24.2: the power goes behind so many steps of a drive; who is down says nothing.
func TestP24_2Fuse(t *testing.T) {
	w := ruled(t)
	lead := leader(t, w, 0)
	do(t, w, api.Act{Kind: api.ActFuse, Node: lead, K: 0}, api.OK)
	if !w.Up(lead) {
		t.Error("a fuse alone takes no power")
	}
	do(t, w, api.Act{Kind: api.ActFuse, Node: lead, K: -1}, api.OK)
	do(t, w, ask(lead, put("a", "x", 1, 0)), api.OK)
	do(t, w, api.Act{Kind: api.ActFuse, Node: lead, K: 1}, api.OK)
	mails, replies := w.Mails(), len(w.Replies())
	do(t, w, ask(lead, put("b", "y", 2, 0)), api.OK)
	if w.Up(lead) || w.Mails() != mails || len(w.Replies()) != replies || w.Leads(lead) || w.Ledger(lead) != nil {
		t.Error("it says something", w.Mails(), len(w.Replies()))
	}
	do(t, w, tick(lead), api.ErrDown)
	do(t, w, api.Act{Kind: api.ActFuse, Node: lead, K: 5}, api.OK)
	do(t, w, api.Act{Kind: api.ActStart, Node: lead}, api.OK)
	rounds(t, w, 12)
	if l := w.Ledger(lead); l == nil || l.Last() != (api.Spot{N: 2, Epoch: 1}) {
		t.Error("what lasted isn't done")
	}
}

// P24.2: a site is lost for ever.
func TestP24_2Lose(t *testing.T) {
	w := ruled(t)
	do(t, w, ask(leader(t, w, 0), put("a", strings.Repeat("a", 100), 1, api.ModeSync)), api.OK)
	rounds(t, w, 16)
	if r := last(w); r.Err != api.OK || r.At != (api.Spot{N: 2, Epoch: 1}) {
		t.Fatal(r)
	}
	for _, k := range []int{-1, 2, 9} {
		do(t, w, api.Act{Kind: api.ActLose, K: k}, api.ErrArg)
	}
	for id := range 6 {
		do(t, w, tick(id), api.OK)
	}
	before := w.Mails()
	do(t, w, api.Act{Kind: api.ActLose, K: 0}, api.OK)
	if w.Lost() != 0 || w.Mails() >= before || w.Mails() == 0 {
		t.Error(w.Lost(), w.Mails(), before)
	}
	for _, k := range []int{0, 1} {
		do(t, w, api.Act{Kind: api.ActLose, K: k}, api.ErrDenied)
	}
	do(t, w, api.Act{Kind: api.ActLose, K: 2}, api.ErrArg)
	for id := range 3 {
		if w.Up(id) || w.Ledger(id) != nil {
			t.Error(id, "is up")
		}
		for _, kind := range []int{api.ActCrash, api.ActStart, api.ActFuse, api.ActFlip} {
			do(t, w, api.Act{Kind: kind, Node: id}, api.ErrDenied)
		}
		do(t, w, tick(id), api.ErrDown)
		do(t, w, ask(id, api.Ask{Kind: api.AskList}), api.OK)
		if r := last(w); r.Err != api.ErrDown || r.Ask != len(w.Asks())-1 {
			t.Error(r)
		}
	}
	for _, id := range []int{3, 6} {
		do(t, w, api.Act{Kind: api.ActCrash, Node: id}, api.OK)
		do(t, w, api.Act{Kind: api.ActStart, Node: id}, api.OK)
	}
	rounds(t, w, 6)
	do(t, w, ask(leader(t, w, 1), api.Ask{Kind: api.AskReign}), api.OK)
	rounds(t, w, 6)
	do(t, w, ask(leader(t, w, 1), api.Ask{Kind: api.AskRestore, Name: "a"}), api.OK)
	rounds(t, w, 6)
	if r := last(w); r.Err != api.OK || r.Data != strings.Repeat("a", 100) || w.Grant() != (api.Grant{Epoch: 2, Site: 1}) {
		t.Error(r, w.Grant())
	}
	other := made(t)
	do(t, other, api.Act{Kind: api.ActLose, K: 1}, api.OK)
	if other.Lost() != 1 || other.Up(3) || !other.Up(2) || !other.Up(6) {
		t.Error(other.Lost())
	}
}

// P24.2: a bit of a chunk's file turns.
func TestP24_2Flip(t *testing.T) {
	w := ruled(t)
	lead := leader(t, w, 0)
	flip := func(id, k, draw int) api.Act { return api.Act{Kind: api.ActFlip, Node: id, K: k, Draw: draw} }
	do(t, w, flip(lead, 0, 0), api.ErrNone)
	do(t, w, ask(lead, put("a", "one", 1, 0)), api.OK)
	do(t, w, ask(lead, put("b", "other", 2, 0)), api.OK)
	rounds(t, w, 12)
	for _, id := range []int{-1, 6, 7} {
		do(t, w, flip(id, 0, 0), api.ErrArg)
	}
	do(t, w, flip(lead, -1, 0), api.ErrNone)
	do(t, w, flip(lead, 0, -1), api.ErrNone)
	if w.Misses(lead) != 0 {
		t.Error(w.Misses(lead))
	}
	// Both files turn in the bit that was named, counted on from the front again behind the last one.
	do(t, w, flip(lead, 0, 3), api.OK)
	do(t, w, flip(lead, 1, 3), api.OK)
	if w.Misses(lead) != 2 {
		t.Error(w.Misses(lead))
	}
	do(t, w, flip(lead, 2, 3+8*3*5), api.OK) // one has three bytes, one five: either way it is the third bit
	do(t, w, flip(lead, 9, 3+8*3*5), api.OK)
	if w.Misses(lead) != 0 {
		t.Error("turned back", w.Misses(lead))
	}
	do(t, w, api.Act{Kind: api.ActFuse, Node: lead, K: 0}, api.OK)
	do(t, w, ask(lead, put("c", "x", 3, 0)), api.OK)
	if w.Up(lead) {
		t.Fatal("it is up")
	}
	do(t, w, flip(lead, 0, 0), api.ErrNone)
	do(t, w, api.Act{Kind: api.ActCrash, Node: lead}, api.OK)
	do(t, w, flip(lead, 0, 0), api.OK)
	do(t, w, api.Act{Kind: api.ActStart, Node: lead}, api.OK)
	if n := w.Ledger(lead); n == nil || w.Misses(lead) > 1 {
		t.Error("what isn't whole is gone", w.Misses(lead))
	}
}

// P24.2: other kinds.
func TestP24_2Others(t *testing.T) {
	w := made(t)
	for _, kind := range []int{0, -1, 11, 12, 1 << 40, -1 << 63} {
		do(t, w, api.Act{Kind: kind}, api.ErrArg)
	}
	if w.Mails() != 0 || len(w.Asks()) != 0 {
		t.Error("something was done")
	}
}

// P24.2: the witness answers claims, and nothing else.
func TestP24_2Witness(t *testing.T) {
	w := ruled(t)
	lead := leader(t, w, 0)
	for want := 2; want <= 4; want++ {
		far := leader(t, w, (want-1)%2)
		do(t, w, ask(far, api.Ask{Kind: api.AskReign}), api.OK)
		rounds(t, w, 10)
		if g := w.Grant(); g.Epoch != min(want, 3) {
			t.Error(want, g)
		}
	}
	if r := last(w); r.Err != api.ErrSaturated {
		t.Error("three epochs", r)
	}
	do(t, w, api.Act{Kind: api.ActCrash, Node: 6}, api.OK)
	if w.Grant() != (api.Grant{}) || w.Up(6) {
		t.Error("who isn't up tells nothing", w.Grant())
	}
	rounds(t, w, 2)
	do(t, w, api.Act{Kind: api.ActStart, Node: 6}, api.OK)
	if w.Grant().Epoch != 3 {
		t.Error(w.Grant())
	}
	do(t, w, tick(lead), api.OK)
	if w.Mails() == 0 {
		t.Error("no letters")
	}
}

// P24.3: what can be asked.
func TestP24_3Asked(t *testing.T) {
	w := ruled(t)
	lead := leader(t, w, 0)
	do(t, w, ask(lead, put("a", "x", 1, 0)), api.OK)
	if w.Waits(lead) != 1 || w.Waits((lead+1)%3) != 0 {
		t.Error(w.Waits(lead))
	}
	rounds(t, w, 12)
	do(t, w, ask(lead, api.Ask{Kind: api.AskList}), api.OK)
	do(t, w, ask(lead, api.Ask{Kind: api.AskLost}), api.OK)
	rounds(t, w, 3)
	for _, id := range []int{-1, 6, 7, 1 << 40, -1 << 63} {
		if w.Ledger(id) != nil || w.Misses(id) != 0 || w.Waits(id) != 0 || w.Leads(id) || w.Up(id) != (id == 6) {
			t.Error(id)
		}
	}
	l := w.Ledger(lead)
	l.Apply(api.Command{Kind: api.CmdReign, Epoch: 9})
	if w.Ledger(lead).Fence() != 1 {
		t.Error("a ledger that was told changes the node's")
	}
	replies := w.Replies()
	for i := range replies {
		if len(replies[i].Names) > 0 {
			replies[i].Names[0] = "changed"
		}
		replies[i].Err = 99
	}
	w.Asks()[0].Name = "changed"
	for _, r := range w.Replies() {
		if r.Err == 99 || slices.Contains(r.Names, "changed") {
			t.Error("what is told changes what was", r)
		}
	}
	if w.Asks()[0].Name != "" {
		t.Error(w.Asks()[0])
	}
}

// seen answers all that a world tells.
func seen(w *world.World) string {
	s := ""
	for id := range 7 {
		s += w.Ledger(id).Pack() + string(rune('0'+w.Misses(id))) + string(rune('0'+w.Waits(id)))
		if w.Leads(id) {
			s += "leads"
		}
		if w.Up(id) {
			s += "up"
		}
	}
	for _, r := range w.Replies() {
		s += string(rune(r.Ask)) + string(rune(r.Err)) + string(rune(r.At.N)) + string(rune(r.At.Epoch)) + strings.Join(r.Names, ",") + r.Data + deed.PackOps(r.Lost...)
	}
	for _, a := range w.Asks() {
		s += a.Name + a.Data
	}
	return s + string(rune('0'+w.Lost()+1)) + string(rune(w.Mails())) + string(rune(w.Grant().Epoch)) + string(rune(w.Grant().Site))
}

// P24.4: a copy goes on as the first one does, and they know nothing of each other.
func TestP24_4Copy(t *testing.T) {
	w := ruled(t)
	lead := leader(t, w, 0)
	more := func(w *world.World, from, to int) {
		acts := []api.Act{ask(lead, put("a", strings.Repeat("a", 200), 1, api.ModeSync)), tick(0), tick(1), tick(2), deliver(0), deliver(0), {Kind: api.ActFuse, Node: 1, K: 7}, {Kind: api.ActTwin}, tick(3), tick(4), tick(5), deliver(3), {Kind: api.ActFlip, Node: lead, K: 1, Draw: 4}, {Kind: api.ActCrash, Node: 2, Keeps: []int{3}}, deliver(0), {Kind: api.ActDrop, K: 2}, {Kind: api.ActStart, Node: 2, Keeps: []int{1, 2}}, ask(lead, api.Ask{Kind: api.AskRestore, Name: "a"}), deliver(0), deliver(0), tick(lead), deliver(1), {Kind: api.ActLose, K: 1}, deliver(0), tick(0), tick(1), tick(2)}
		for _, a := range acts[from:min(to, len(acts))] {
			w.Do(a)
		}
	}
	for at := range 28 {
		w := ruled(t)
		more(w, 0, at)
		before := seen(w)
		c, e := w.Copy()
		if e != api.OK || seen(c) != before {
			t.Fatal(at, "a copy", e)
		}
		more(c, at, 99)
		if seen(w) != before {
			t.Fatal(at, "the copy changes the first one")
		}
		behind := seen(c)
		more(w, at, 99)
		if seen(w) != behind || seen(c) != behind {
			t.Fatal(at, "they don't go on alike")
		}
	}
	keeps := []int{5}
	w.Do(api.Act{Kind: api.ActFuse, Node: 6, K: 1})
	a := api.Act{Kind: api.ActCrash, Node: 6, Keeps: keeps}
	w.Do(a)
	keeps[0] = 0
	c, _ := w.Copy()
	if seen(c) != seen(w) {
		t.Error("what was handed in is kept")
	}
}

// P24.4: no world.
func TestP24_4Nil(t *testing.T) {
	var w *world.World
	if w.Do(tick(0)) != api.ErrNil || w.Do(api.Act{}) != api.ErrNil || w.Replies() != nil || w.Asks() != nil || w.Ledger(0) != nil || w.Misses(0) != 0 || w.Waits(0) != 0 || w.Leads(0) || w.Up(0) || w.Up(6) || w.Lost() != -1 || w.Grant() != (api.Grant{}) || w.Mails() != 0 {
		t.Error("a nil world answers something")
	}
	if c, e := w.Copy(); c != nil || e != api.ErrNil {
		t.Error(c, e)
	}
}

// P24.5: the chapter's example.
func TestP24_5Example(t *testing.T) {
	w := made(t)
	do(t, w, api.Act{Kind: api.ActTick, Node: 0}, api.OK)
	for w.Mails() > 0 {
		do(t, w, api.Act{Kind: api.ActDrop}, api.OK)
	}
	do(t, w, api.Act{Kind: api.ActTick, Node: 0}, api.OK)
	if w.Mails() != 4 { // two that it stands, two how far it is whole
		t.Error(w.Mails())
	}
	do(t, w, deliver(0), api.OK)
	if w.Mails() != 4 {
		t.Error("node 1 votes", w.Mails())
	}
	do(t, w, ask(1, api.Ask{Kind: api.AskList}), api.OK)
	if r := last(w); r.Err != api.ErrFollower {
		t.Error(r)
	}
	do(t, w, api.Act{Kind: api.ActCrash, Node: 1}, api.OK)
	do(t, w, tick(1), api.ErrDown)
	do(t, w, api.Act{Kind: api.ActStart, Node: 1}, api.OK)
	do(t, w, api.Act{Kind: api.ActStart, Node: 1}, api.ErrThere)
	do(t, w, api.Act{Kind: api.ActLose, K: 1}, api.OK)
	do(t, w, api.Act{Kind: api.ActLose, K: 0}, api.ErrDenied)
}
