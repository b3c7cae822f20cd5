package model_test

import (
	"math/rand"
	"slices"
	"strings"
	"testing"

	"redoubt/api"
	"redoubt/deed"
	"redoubt/ledger"
	"redoubt/model"
	"redoubt/sheet"
)

func at(n, epoch int) api.Spot { return api.Spot{N: n, Epoch: epoch} }

func reign(n, epoch, site int) api.Op {
	return api.Op{N: n, Epoch: epoch, Kind: api.OpReign, Site: site}
}

func put(n, epoch, site, seq int, name, data string) api.Op {
	s, _ := sheet.Make(data)
	return api.Op{N: n, Epoch: epoch, Kind: api.OpPut, Site: site, Client: 2, Seq: seq, Name: name, Sheet: s}
}

func drop(n, epoch, site, seq int, name string) api.Op {
	return api.Op{N: n, Epoch: epoch, Kind: api.OpDrop, Site: site, Client: 2, Seq: seq, Name: name}
}

func same(a, b api.Op) bool { return deed.PackOps(a) == deed.PackOps(b) }

func sees(t *testing.T, what string, m *model.Model, e api.Errno, ops ...api.Op) {
	t.Helper()
	if got := m.See(ops...); got != e {
		t.Errorf("%s: %d, not %d", what, got, e)
	}
}

func hasPath(t *testing.T, m *model.Model, place api.Spot, ops ...api.Op) {
	t.Helper()
	if got, ok := m.Path(place); !ok || !slices.EqualFunc(got, ops, same) {
		t.Errorf("path of %v: %v, %v", place, got, ok)
	}
}

func hasNames(t *testing.T, m *model.Model, place api.Spot, names ...string) {
	t.Helper()
	if got, ok := m.Names(place); !ok || !slices.Equal(got, names) {
		t.Errorf("names at %v: %q, %v", place, got, ok)
	}
}

func hasNo(t *testing.T, m *model.Model, places ...api.Spot) {
	t.Helper()
	for _, place := range places {
		if list, ok := m.Path(place); list != nil || ok {
			t.Errorf("path of %v: %v", place, list)
		}
		if list, ok := m.Names(place); len(list) != 0 || ok {
			t.Errorf("names at %v: %q", place, list)
		}
		if o, ok := m.Find(place, "a"); ok || !same(o, api.Op{}) {
			t.Errorf("found at %v: %v", place, o)
		}
	}
}

// trunk is what both ends of the tree below have ahead of them.
func trunk() []api.Op {
	return []api.Op{reign(1, 1, 0), put(2, 1, 0, 1, "a", "data a"), put(3, 1, 0, 2, "b", "data b")}
}

// grown answers a model with two ends: {5, 1} and {5, 2}.
func grown(t *testing.T) *model.Model {
	t.Helper()
	m := model.New()
	sees(t, "one end", m, api.OK, append(trunk(), drop(4, 1, 0, 3, "a"), put(5, 1, 0, 4, "a", "anew"))...)
	sees(t, "other end", m, api.OK, append(trunk(), reign(4, 2, 1), drop(5, 2, 1, 9, "b"))...)
	return m
}

// P26.1: a new one; what can be seen.
func TestP26_1New(t *testing.T) {
	m := model.New()
	hasPath(t, m, at(0, 0))
	hasNames(t, m, at(0, 0))
	hasNo(t, m, at(1, 1), at(0, 1), at(1, 0), at(-1, 1))
	sees(t, "nothing", m, api.OK)
	hasNo(t, m, at(1, 1))
}

// P26.1: operations are in the tree, each behind the one ahead of it.
func TestP26_1See(t *testing.T) {
	m := model.New()
	sees(t, "the chapter's example", m, api.OK, reign(1, 1, 0), put(2, 1, 0, 1, "a", "x"))
	sees(t, "another end", m, api.OK, reign(1, 1, 0), reign(2, 2, 1))
	sees(t, "another put of that place", m, api.ErrDenied, reign(1, 1, 0), put(2, 1, 0, 1, "b", "x"))
	sees(t, "again", m, api.OK, reign(1, 1, 0), put(2, 1, 0, 1, "a", "x"))
	hasNames(t, m, at(2, 1), "a")
	hasNames(t, m, at(2, 2))
	hasNo(t, m, at(3, 1))
	hasPath(t, m, at(2, 1), reign(1, 1, 0), put(2, 1, 0, 1, "a", "x"))
	hasPath(t, m, at(2, 2), reign(1, 1, 0), reign(2, 2, 1))
}

// P26.1: what isn't a row behind the front.
func TestP26_1Form(t *testing.T) {
	m := model.New()
	for i, ops := range [][]api.Op{{put(1, 1, 0, 1, "a", "x")}, {reign(2, 1, 0)}, {reign(1, 1, 0), put(3, 1, 0, 1, "a", "x")}, {reign(1, 1, 0), put(2, 1, 1, 1, "a", "x")}, {reign(1, 1, 0), put(2, 2, 0, 1, "a", "x")}, {reign(1, 1, 0), reign(2, 1, 1)}, {{}}, {reign(1, 17, 0)}} {
		sees(t, "no row "+string(rune('a'+i)), m, api.ErrForm, ops...)
	}
	hasNo(t, m, at(1, 1), at(2, 1))
	sees(t, "a tree", m, api.OK, reign(1, 1, 0))
	sees(t, "ErrForm stands ahead", m, api.ErrForm, reign(1, 1, 1), reign(2, 1, 1))
}

// P26.1: a place has one operation, and one place ahead; what is denied leaves nothing.
func TestP26_1Denied(t *testing.T) {
	other := func(change func(o *api.Op)) []api.Op {
		list := trunk()
		change(&list[1])
		return append(list, put(4, 1, 0, 7, "new", "x"))
	}
	for i, ops := range [][]api.Op{
		other(func(o *api.Op) { o.Name = "c" }),
		other(func(o *api.Op) { o.Seq = 9 }),
		other(func(o *api.Op) { o.Client = 3 }),
		other(func(o *api.Op) { o.Sheet, _ = sheet.Make("data c") }),
		other(func(o *api.Op) { o.Sheet, _ = sheet.Make("longer data") }),
		other(func(o *api.Op) { o.Kind, o.Sheet = api.OpDrop, api.Sheet{} }),
		{reign(1, 1, 1)},
		{reign(1, 1, 0), reign(2, 2, 1), put(3, 2, 1, 5, "c", "x"), reign(4, 3, 0), put(5, 3, 0, 6, "d", "x"), reign(6, 4, 0), drop(7, 4, 0, 7, "nothing"), reign(8, 9, 1)},
	} {
		m := grown(t)
		sees(t, "ends", m, api.OK, reign(1, 1, 0), put(2, 1, 0, 1, "a", "data a"), reign(3, 3, 1), reign(4, 4, 1), put(5, 4, 1, 1, "q", "x"), put(6, 4, 1, 2, "r", "x"), put(7, 4, 1, 3, "s", "x"), reign(8, 9, 1))
		sees(t, "denied "+string(rune('a'+i)), m, api.ErrDenied, ops...)
		hasNo(t, m, at(4, 3), at(7, 9), at(2, 2), at(3, 2), at(6, 1))
		hasPath(t, m, at(3, 1), trunk()...)
		if list, ok := m.Path(at(4, 1)); !ok || list[3].Kind != api.OpDrop {
			t.Error(i, "another one took that place")
		}
	}
	bare := model.New()
	sees(t, "a put of no bytes", bare, api.OK, reign(1, 1, 0), put(2, 1, 0, 1, "a", ""))
	sees(t, "a drop of that", bare, api.ErrDenied, reign(1, 1, 0), drop(2, 1, 0, 1, "a"))
	m := model.New()
	sees(t, "first", m, api.OK, reign(1, 1, 0), reign(2, 3, 1))
	sees(t, "another place ahead", m, api.ErrDenied, reign(1, 2, 0), reign(2, 3, 1))
	hasNo(t, m, at(1, 2))
}

// P26.2: paths, names, and what they mean.
func TestP26_2Told(t *testing.T) {
	m := grown(t)
	hasPath(t, m, at(0, 0))
	hasPath(t, m, at(1, 1), trunk()[:1]...)
	hasPath(t, m, at(3, 1), trunk()...)
	hasPath(t, m, at(5, 1), append(trunk(), drop(4, 1, 0, 3, "a"), put(5, 1, 0, 4, "a", "anew"))...)
	hasPath(t, m, at(5, 2), append(trunk(), reign(4, 2, 1), drop(5, 2, 1, 9, "b"))...)
	hasNo(t, m, at(6, 1), at(6, 2), at(3, 2), at(4, 3), at(1, 0), at(0, 1), at(-1, -1))
	for place, names := range map[api.Spot][]string{at(0, 0): nil, at(1, 1): nil, at(2, 1): {"a"}, at(3, 1): {"a", "b"}, at(4, 1): {"b"}, at(5, 1): {"a", "b"}, at(4, 2): {"a", "b"}, at(5, 2): {"a"}} {
		hasNames(t, m, place, names...)
		for _, name := range []string{"a", "b", "c", ""} {
			o, ok := m.Find(place, name)
			if ok != slices.Contains(names, name) || ok && (o.Name != name || o.Kind != api.OpPut) || !ok && !same(o, api.Op{}) {
				t.Errorf("%q at %v: %v, %v", name, place, o, ok)
			}
		}
	}
	if o, _ := m.Find(at(3, 1), "a"); o.N != 2 {
		t.Error(o)
	}
	if o, _ := m.Find(at(5, 1), "a"); o.N != 5 {
		t.Error(o)
	}
}

func asks(kind, seq int, name, data string) api.Ask {
	return api.Ask{Kind: kind, Client: 2, Seq: seq, Name: name, Data: data}
}

func judges(t *testing.T, what string, m *model.Model, a api.Ask, x api.Reply, e api.Errno) {
	t.Helper()
	if got := m.Judge(a, x); got != e {
		t.Errorf("%s: %d, not %d", what, got, e)
	}
}

// P26.3: puts and drops that were answered OK.
func TestP26_3Changes(t *testing.T) {
	m := grown(t)
	for _, kind := range []int{api.AskPut, api.AskDrop} {
		for _, x := range []struct {
			client, seq int
			place       api.Spot
			e           api.Errno
		}{{2, 1, at(2, 1), api.OK}, {2, 3, at(4, 1), api.OK}, {2, 9, at(5, 2), api.OK}, {2, 2, at(2, 1), api.ErrDenied}, {3, 1, at(2, 1), api.ErrDenied}, {0, 0, at(1, 1), api.ErrDenied}, {2, 1, at(0, 0), api.ErrNone}, {2, 1, at(2, 2), api.ErrNone}, {2, 1, at(9, 1), api.ErrNone}, {2, 1, at(0, 1), api.ErrNone}, {2, 1, at(-1, 1), api.ErrNone}} {
			judges(t, "change", m, api.Ask{Kind: kind, Client: x.client, Seq: x.seq, Name: "a"}, api.Reply{At: x.place}, x.e)
		}
	}
}

// P26.3: lists that were answered OK.
func TestP26_3Lists(t *testing.T) {
	m := grown(t)
	a := asks(api.AskList, 0, "", "")
	judges(t, "as it is", m, a, api.Reply{At: at(3, 1), Names: []string{"a", "b"}}, api.OK)
	judges(t, "at the front", m, a, api.Reply{}, api.OK)
	judges(t, "at the front, with names", m, a, api.Reply{Names: []string{"a"}}, api.ErrDenied)
	judges(t, "one less", m, a, api.Reply{At: at(3, 1), Names: []string{"a"}}, api.ErrDenied)
	judges(t, "one more", m, a, api.Reply{At: at(2, 1), Names: []string{"a", "b"}}, api.ErrDenied)
	judges(t, "not rising", m, a, api.Reply{At: at(3, 1), Names: []string{"b", "a"}}, api.ErrDenied)
	judges(t, "no such place", m, a, api.Reply{At: at(3, 2), Names: []string{"a", "b"}}, api.ErrNone)
	judges(t, "no such place", m, a, api.Reply{At: at(9, 1)}, api.ErrNone)
}

// P26.3: bytes that were restored.
func TestP26_3Restores(t *testing.T) {
	m := grown(t)
	a := asks(api.AskRestore, 0, "a", "")
	judges(t, "nobody asked for these", m, a, api.Reply{At: at(3, 1), Data: "data a"}, api.ErrDenied)
	m.Asked(asks(api.AskDrop, 1, "a", "data a"))
	m.Asked(asks(api.AskRestore, 1, "a", "data a"))
	m.Asked(asks(api.AskPut, 2, "a", "data a"))
	m.Asked(asks(api.AskPut, 1, "b", "data a"))
	m.Asked(api.Ask{Kind: api.AskPut, Client: 3, Seq: 1, Name: "a", Data: "data a"})
	judges(t, "others asked for these", m, a, api.Reply{At: at(3, 1), Data: "data a"}, api.ErrDenied)
	m.Asked(asks(api.AskPut, 1, "a", "others"))
	m.Asked(asks(api.AskPut, 1, "a", "data a"))
	m.Asked(asks(api.AskPut, 1, "a", "data c"))
	m.Asked(asks(api.AskPut, 1, "a", strings.Repeat("x", 600)))
	m.Asked(asks(api.AskPut, 4, "a", "anew"))
	judges(t, "as it was put", m, a, api.Reply{At: at(3, 1), Data: "data a"}, api.OK)
	judges(t, "at the other end", m, a, api.Reply{At: at(5, 2), Data: "data a"}, api.OK)
	judges(t, "put anew", m, a, api.Reply{At: at(5, 1), Data: "anew"}, api.OK)
	judges(t, "of the first put", m, a, api.Reply{At: at(5, 1), Data: "data a"}, api.ErrDenied)
	judges(t, "of a later put", m, a, api.Reply{At: at(3, 1), Data: "anew"}, api.ErrDenied)
	judges(t, "not of its sheet", m, a, api.Reply{At: at(3, 1), Data: "data c"}, api.ErrDenied)
	judges(t, "too long", m, a, api.Reply{At: at(3, 1), Data: strings.Repeat("x", 600)}, api.ErrDenied)
	judges(t, "no bytes", m, a, api.Reply{At: at(3, 1)}, api.ErrDenied)
	judges(t, "not live", m, a, api.Reply{At: at(4, 1), Data: "data a"}, api.ErrDenied)
	judges(t, "not live yet", m, a, api.Reply{At: at(1, 1), Data: "data a"}, api.ErrDenied)
	judges(t, "at the front", m, a, api.Reply{Data: "data a"}, api.ErrDenied)
	judges(t, "no such place", m, a, api.Reply{At: at(3, 2), Data: "data a"}, api.ErrNone)
}

// P26.3: what isn't found, other errors, other kinds.
func TestP26_3Errors(t *testing.T) {
	m := grown(t)
	a := asks(api.AskRestore, 0, "a", "")
	none := func(place api.Spot) api.Reply { return api.Reply{Err: api.ErrNotFound, At: place} }
	judges(t, "live", m, a, none(at(3, 1)), api.ErrDenied)
	judges(t, "dropped", m, a, none(at(4, 1)), api.OK)
	judges(t, "ahead of it", m, a, none(at(1, 1)), api.OK)
	judges(t, "at the front", m, a, none(at(0, 0)), api.OK)
	judges(t, "no such place", m, a, none(at(9, 9)), api.ErrNone)
	for kind := range 8 {
		a := asks(kind, 1, "a", "")
		for _, e := range []api.Errno{api.ErrUnsure, api.ErrDown, api.ErrFollower, api.ErrThere, api.ErrCorrupt, api.ErrMissing, api.ErrNotFound, -1, 77} {
			if kind == api.AskRestore && e == api.ErrNotFound {
				continue
			}
			judges(t, "an error", m, a, api.Reply{Err: e, At: at(9, 9)}, api.OK)
			judges(t, "an error with names", m, a, api.Reply{Err: e, Names: []string{"a"}}, api.ErrDenied)
			judges(t, "an error with bytes", m, a, api.Reply{Err: e, Data: "x"}, api.ErrDenied)
		}
	}
	for _, kind := range []int{api.AskReign, api.AskLost} {
		judges(t, "reign, lost", m, asks(kind, 0, "", ""), api.Reply{At: at(9, 9), Lost: trunk()}, api.OK)
	}
	for _, kind := range []int{0, 7, -1} {
		judges(t, "another kind", m, asks(kind, 0, "", ""), api.Reply{At: at(3, 1)}, api.ErrDenied)
	}
}

// P26.4: a copy goes its own way; no model.
func TestP26_4Copy(t *testing.T) {
	m := grown(t)
	m.Asked(asks(api.AskPut, 1, "a", "data a"))
	c := m.Copy()
	a, x := asks(api.AskRestore, 0, "a", ""), api.Reply{At: at(3, 1), Data: "data a"}
	judges(t, "copy", c, a, x, api.OK)
	m.Asked(asks(api.AskPut, 4, "a", "anew"))
	judges(t, "what the copy wasn't told", c, a, api.Reply{At: at(5, 1), Data: "anew"}, api.ErrDenied)
	sees(t, "the first one", m, api.OK, append(trunk(), reign(4, 3, 0))...)
	hasNo(t, c, at(4, 3))
	sees(t, "the copy", c, api.OK, append(trunk(), reign(4, 4, 0))...)
	hasNo(t, m, at(4, 4))
	hasPath(t, c, at(3, 1), trunk()...)
}

// P26.4: no model.
func TestP26_4Nil(t *testing.T) {
	var m *model.Model
	m.Asked(asks(api.AskPut, 1, "a", "x"))
	if m.See() != api.ErrNil || m.Judge(api.Ask{}, api.Reply{}) != api.ErrNil || m.Copy() != nil {
		t.Error("a nil model answers something")
	}
	hasNo(t, m, at(0, 0), at(1, 1))
}

// P26.5: whatever is seen in whatever order, the tree is the same; what a ledger has as live is live at its last place.
func TestP26_5Order(t *testing.T) {
	rnd := rand.New(rand.NewSource(1))
	for range 60 {
		l := [2]*ledger.Ledger{}
		for i := range l {
			l[i], _ = ledger.New(1<<16, 64)
		}
		var seen [][]api.Op
		places := map[api.Spot]int{}
		epoch, seq := 0, 0
		for range 40 {
			site := rnd.Intn(2)
			h := l[site].Holder()
			switch {
			case rnd.Intn(9) == 0 && epoch < 16:
				epoch++
				l[site].Apply(api.Command{Kind: api.CmdReign, Epoch: epoch, Site: site})
			case h.Epoch > 0 && h.Site == site && h.Epoch == l[site].Fence():
				seq++
				name := string(rune('a' + rnd.Intn(4)))
				s, _ := sheet.Make(name)
				o := api.Op{Kind: api.OpPut, Client: site, Seq: seq, Name: name, Sheet: s}
				if _, live := l[site].Sheet(name); live {
					o.Kind, o.Sheet = api.OpDrop, api.Sheet{}
				}
				l[site].Apply(api.Command{Kind: api.CmdDo, Epoch: h.Epoch, Site: site, Op: o})
				if ops := l[site].Ops(); rnd.Intn(3) == 0 && len(ops) <= 8 {
					l[1-site].Apply(api.Command{Kind: api.CmdShip, Epoch: h.Epoch, Site: site, Ops: ops})
				}
			}
			seen = append(seen, l[site].Ops())
			for _, o := range l[site].Ops() {
				places[at(o.N, o.Epoch)] = 1
			}
		}
		m, n := model.New(), model.New()
		for _, ops := range seen {
			sees(t, "in order", m, api.OK, ops...)
		}
		for _, i := range rnd.Perm(len(seen)) {
			sees(t, "in any order", n, api.OK, seen[i]...)
		}
		for place := range places {
			a, ok := m.Path(place)
			if !ok || !deed.Row(api.Spot{}, a...) {
				t.Fatal("a path is no row", place)
			}
			hasPath(t, n, place, a...)
		}
		for i := range l {
			hasNames(t, m, l[i].Last(), l[i].Names()...)
		}
	}
}

// Rule 5: nothing that is handed in is kept, and what is answered is new memory.
func TestRule5Memory(t *testing.T) {
	m := model.New()
	ops := trunk()
	m.See(ops...)
	ops[1].Sheet.Hashes[0] = "changed"
	list, _ := m.Path(at(3, 1))
	list[1].Sheet.Hashes[0] = "changed"
	o, _ := m.Find(at(3, 1), "a")
	o.Sheet.Hashes[0] = "changed"
	names, _ := m.Names(at(3, 1))
	names[0] = "changed"
	hasPath(t, m, at(3, 1), trunk()...)
	hasNames(t, m, at(3, 1), "a", "b")
}
