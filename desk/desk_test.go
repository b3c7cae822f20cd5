package desk_test

import (
	"slices"
	"strings"
	"testing"

	"redoubt/api"
	"redoubt/carve"
	"redoubt/desk"
	"redoubt/disk"
	"redoubt/ledger"
	"redoubt/sha"
	"redoubt/sheet"
	"redoubt/vault"
)

func at(n, epoch int) api.Spot { return api.Spot{N: n, Epoch: epoch} }

func reach(place api.Spot, holes ...int) api.Reach { return api.Reach{At: place, Holes: holes} }

func ok(n, epoch int) api.Done { return api.Done{At: at(n, epoch)} }

func ask(kind int, name string, mode, lag int) api.Ask {
	return api.Ask{Kind: kind, Client: 2, Seq: 3, Name: name, Mode: mode, Lag: lag}
}

// led answers a ledger with OpReign {1, 1} and behind it the puts of these names; each one's bytes are its name, often.
func led(t *testing.T, names ...string) *ledger.Ledger {
	t.Helper()
	l, _ := ledger.New(1<<16, 64)
	l.Apply(api.Command{Kind: api.CmdReign, Epoch: 1})
	for i, name := range names {
		change(t, l, api.OpPut, i+1, name, dataOf(name))
	}
	return l
}

func dataOf(name string) string { return strings.Repeat(name, 100) }

func change(t *testing.T, l *ledger.Ledger, kind, seq int, name, data string) {
	t.Helper()
	o := api.Op{Kind: kind, Client: 1, Seq: seq, Name: name}
	if kind == api.OpPut {
		o.Sheet, _ = sheet.Make(data)
	}
	if d := l.Apply(api.Command{Kind: api.CmdDo, Epoch: 1, Op: o}); d.Err != api.OK {
		t.Fatal(d)
	}
}

func same(a, b api.Reply) bool {
	lost := slices.EqualFunc(a.Lost, b.Lost, func(x, y api.Op) bool { return x.N == y.N && x.Epoch == y.Epoch && x.Name == y.Name })
	return a.Ask == b.Ask && a.Err == b.Err && a.At == b.At && a.Data == b.Data && slices.Equal(a.Names, b.Names) && lost
}

func says(t *testing.T, what string, got []api.Reply, want ...api.Reply) {
	t.Helper()
	if !slices.EqualFunc(got, want, same) {
		t.Errorf("%s: %+v, not %+v", what, got, want)
	}
}

func add(t *testing.T, d *desk.Desk, n int, a api.Ask, index, term int) {
	t.Helper()
	if e := d.Add(n, a, index, term); e != api.OK {
		t.Fatal("Add", e)
	}
}

func waits(t *testing.T, d *desk.Desk, n int) {
	t.Helper()
	if d.Len() != n {
		t.Errorf("%d wait, not %d", d.Len(), n)
	}
}

// P22.1: requests come, as many as may.
func TestP22_1Add(t *testing.T) {
	d := desk.New()
	waits(t, d, 0)
	for i := range 8 {
		add(t, d, i, ask(api.AskList, "", 0, 0), i, 1)
		waits(t, d, i+1)
	}
	if e := d.Add(8, ask(api.AskList, "", 0, 0), 8, 1); e != api.ErrQueue {
		t.Error(e)
	}
	waits(t, d, 8)
	says(t, "one", d.Agreed(3, 1, ok(0, 0), led(t)), api.Reply{Ask: 3, At: at(1, 1)})
	waits(t, d, 7)
	add(t, d, 9, ask(api.AskList, "", 0, 0), 9, 1)
}

// P22.1: replies go out in the order in which the requests came.
func TestP22_1Order(t *testing.T) {
	d := desk.New()
	for _, n := range []int{5, 3, 9, 1} {
		add(t, d, n, ask(api.AskList, "", 0, 0), 4, 1)
	}
	add(t, d, 7, ask(api.AskList, "", 0, 0), 5, 1)
	l := led(t)
	says(t, "agreed", d.Agreed(4, 1, ok(0, 0), l), api.Reply{Ask: 5, At: at(1, 1)}, api.Reply{Ask: 3, At: at(1, 1)}, api.Reply{Ask: 9, At: at(1, 1)}, api.Reply{Ask: 1, At: at(1, 1)})
	says(t, "again", d.Agreed(4, 1, ok(0, 0), l))
	waits(t, d, 1)
}

// P22.2: what an entry's being done answers.
func TestP22_2Agreed(t *testing.T) {
	l := led(t, "b", "a", "c")
	change(t, l, api.OpDrop, 9, "c", "")
	l.Apply(api.Command{Kind: api.CmdShip, Epoch: 2, Site: 1, After: 4, Since: 1, Ops: []api.Op{{N: 5, Epoch: 2, Kind: api.OpReign, Site: 1}}})
	for i, x := range []struct {
		a    api.Ask
		done api.Done
		want []api.Reply
		left int
	}{
		{ask(api.AskPut, "z", 0, 0), api.Done{Err: api.ErrThere}, []api.Reply{{Ask: 4, Err: api.ErrThere}}, 0},
		{ask(api.AskDrop, "z", 0, 0), api.Done{Err: api.ErrStale}, []api.Reply{{Ask: 4, Err: api.ErrStale}}, 0},
		{ask(api.AskPut, "z", 0, 0), ok(2, 1), nil, 1},
		{ask(api.AskDrop, "z", 0, 0), ok(2, 1), nil, 1},
		{ask(api.AskList, "", 0, 0), api.Done{Err: api.ErrForm}, []api.Reply{{Ask: 4, Names: []string{"a", "b", "c"}, At: at(5, 2)}}, 0},
		{ask(api.AskLost, "", 0, 0), ok(0, 0), []api.Reply{{Ask: 4, Lost: []api.Op{{N: 5, Epoch: 1, Name: "c"}}, At: at(5, 2)}}, 0},
		{ask(api.AskRestore, "z", 0, 0), ok(0, 0), []api.Reply{{Ask: 4, Err: api.ErrNotFound, At: at(5, 2)}}, 0},
		{ask(api.AskRestore, "a", 0, 0), ok(0, 0), nil, 1},
		{ask(api.AskReign, "", 0, 0), ok(0, 0), []api.Reply{{Ask: 4, Err: api.ErrArg}}, 0},
		{ask(0, "", 0, 0), ok(0, 0), []api.Reply{{Ask: 4, Err: api.ErrArg}}, 0},
		{ask(7, "", 0, 0), ok(0, 0), []api.Reply{{Ask: 4, Err: api.ErrArg}}, 0},
	} {
		d := desk.New()
		add(t, d, 4, x.a, 6, 3)
		says(t, "another index", d.Agreed(5, 3, x.done, l))
		says(t, "another index and term", d.Agreed(7, 4, x.done, l))
		c := d.Copy()
		says(t, "case "+string(rune('a'+i)), d.Agreed(6, 3, x.done, l), x.want...)
		waits(t, d, x.left)
		says(t, "again", d.Agreed(6, 3, x.done, l))
		says(t, "another term", c.Agreed(6, 2, x.done, l), api.Reply{Ask: 4, Err: api.ErrUnsure})
		waits(t, c, 0)
	}
}

// P22.3: how far is far enough.
func TestP22_3Settle(t *testing.T) {
	l := led(t, "a", "b", "c") // {1, 1} to {4, 1}
	none := reach(at(0, 0))
	for i, x := range []struct {
		mode, lag int
		site      api.Reach
		far       api.Spot
		whole     api.Reach
		enough    bool
	}{
		{api.ModeAsync, 0, none, at(4, 1), reach(at(4, 1)), false},
		{api.ModeAsync, 0, reach(at(2, 1)), at(4, 1), reach(at(4, 1)), false},
		{api.ModeAsync, 0, reach(at(3, 1), 3), at(4, 1), reach(at(4, 1)), false},
		{api.ModeAsync, 0, reach(at(4, 1), 2, 3), at(4, 1), reach(at(4, 1)), false},
		{api.ModeAsync, 0, reach(at(4, 2)), at(4, 1), reach(at(4, 1)), false},
		{api.ModeAsync, 0, reach(at(9, 1)), at(4, 1), reach(at(4, 1)), false},
		{api.ModeAsync, 0, reach(at(3, 1)), at(0, 0), none, true},
		{api.ModeAsync, 0, reach(at(4, 1), 2, 4), at(0, 0), none, true},
		{9, 0, reach(at(3, 1)), at(0, 0), none, true},
		{api.ModeLag, 0, reach(at(3, 1)), at(2, 1), none, false},
		{api.ModeLag, 0, reach(at(3, 1)), at(3, 1), none, true},
		{api.ModeLag, 0, reach(at(3, 1)), at(4, 1), none, true},
		{api.ModeLag, 0, reach(at(3, 1)), at(3, 2), none, false},
		{api.ModeLag, 2, reach(at(3, 1)), at(0, 0), none, false},
		{api.ModeLag, 2, reach(at(3, 1)), at(1, 1), none, true},
		{api.ModeLag, 3, reach(at(3, 1)), at(0, 0), none, true},
		{api.ModeLag, 3, reach(at(3, 1)), at(9, 9), none, true},
		{api.ModeLag, 2, reach(at(3, 1)), at(9, 9), none, false},
		{api.ModeLag, 64, reach(at(2, 1)), at(4, 1), reach(at(4, 1)), false},
		{api.ModeSync, 64, reach(at(3, 1)), at(3, 1), reach(at(3, 1)), true},
		{api.ModeSync, 64, reach(at(4, 1)), at(4, 1), reach(at(4, 1), 2, 4), true},
		{api.ModeSync, 64, reach(at(2, 1)), at(3, 1), reach(at(3, 1)), false},
		{api.ModeSync, 64, reach(at(3, 1)), at(2, 1), reach(at(3, 1)), false},
		{api.ModeSync, 64, reach(at(3, 1)), at(3, 2), reach(at(3, 1)), false},
		{api.ModeSync, 64, reach(at(3, 1)), at(3, 1), reach(at(2, 1)), false},
		{api.ModeSync, 64, reach(at(3, 1)), at(3, 1), reach(at(4, 1), 3), false},
		{api.ModeSync, 64, reach(at(3, 1)), at(3, 1), reach(at(3, 2)), false},
	} {
		for _, kind := range []int{api.AskPut, api.AskDrop} {
			d := desk.New()
			add(t, d, 4, ask(kind, "b", x.mode, x.lag), 6, 3)
			says(t, "it waits for its entry", d.Settle(l, reach(at(4, 1)), at(4, 1), reach(at(4, 1))))
			d.Agreed(6, 3, ok(3, 1), l)
			if x.enough {
				says(t, "case "+string(rune('a'+i)), d.Settle(l, x.site, x.far, x.whole), api.Reply{Ask: 4, At: at(3, 1)})
				waits(t, d, 0)
			} else {
				says(t, "case "+string(rune('a'+i)), d.Settle(l, x.site, x.far, x.whole))
				waits(t, d, 1)
			}
		}
	}
}

// P22.3: what isn't in the ledger any more; and order.
func TestP22_3Unsure(t *testing.T) {
	l := led(t, "a", "b", "c")
	far := reach(at(4, 1))
	d := desk.New()
	add(t, d, 1, ask(api.AskPut, "x", 0, 0), 1, 1)
	add(t, d, 2, ask(api.AskPut, "x", 0, 0), 2, 1)
	add(t, d, 3, ask(api.AskPut, "x", api.ModeSync, 0), 3, 1)
	add(t, d, 4, ask(api.AskDrop, "x", 0, 0), 4, 1)
	add(t, d, 5, ask(api.AskPut, "x", 0, 0), 5, 1)
	d.Agreed(1, 1, ok(4, 1), l)
	d.Agreed(2, 1, ok(4, 2), l)
	d.Agreed(3, 1, ok(3, 1), l)
	d.Agreed(4, 1, ok(9, 1), l)
	d.Agreed(5, 1, ok(0, 0), l)
	says(t, "in order", d.Settle(l, far, at(0, 0), api.Reach{}), api.Reply{Ask: 1, At: at(4, 1)}, api.Reply{Ask: 2, Err: api.ErrUnsure}, api.Reply{Ask: 4, Err: api.ErrUnsure}, api.Reply{Ask: 5, Err: api.ErrUnsure})
	waits(t, d, 1)
	says(t, "the last one", d.Settle(l, far, at(4, 1), far), api.Reply{Ask: 3, At: at(3, 1)})
	says(t, "none", d.Settle(l, far, at(4, 1), far))
}

// open answers a vault with the chunks of these names' bytes.
func open(t *testing.T, names ...string) (*disk.Disk, *vault.Vault) {
	t.Helper()
	d := disk.New()
	v, _ := vault.Open(d, 1<<20)
	for _, name := range names {
		for _, chunk := range carve.Cut(dataOf(name)) {
			v.Put(chunk)
		}
	}
	return d, v
}

func restores(t *testing.T, l *ledger.Ledger, names ...string) *desk.Desk {
	t.Helper()
	d := desk.New()
	for i, name := range names {
		add(t, d, i, ask(api.AskRestore, name, 0, 0), i, 1)
		d.Agreed(i, 1, ok(0, 0), l)
	}
	return d
}

// P22.4: bytes, when all chunks are there.
func TestP22_4Fetch(t *testing.T) {
	l := led(t, "a", "bc", "d")
	change(t, l, api.OpPut, 9, "empty", "")
	drive, v := open(t, "a")
	d := restores(t, l, "bc", "a", "empty", "d")
	place := at(5, 1)
	add(t, d, 9, ask(api.AskRestore, "a", 0, 0), 99, 1)
	says(t, "those that are there", d.Fetch(v, l), api.Reply{Ask: 1, At: place, Data: dataOf("a")}, api.Reply{Ask: 2, At: place})
	says(t, "nothing new", d.Fetch(v, l))
	waits(t, d, 3)
	chunks := carve.Cut(dataOf("bc"))
	v.Put(chunks[1])
	says(t, "not all", d.Fetch(v, l))
	for _, chunk := range chunks {
		v.Put(chunk)
	}
	change(t, l, api.OpDrop, 10, "bc", "")
	says(t, "all, though dropped; its place stays", d.Fetch(v, l), api.Reply{Ask: 0, At: place, Data: dataOf("bc")})
	drive.Fuse(0)
	drive.Append("x", "")
	says(t, "the power is off", d.Fetch(v, l))
	waits(t, d, 2)
}

// P22.4: chunks that are corrupt: those behind aren't asked.
func TestP22_4Corrupt(t *testing.T) {
	l := led(t, "a")
	data := "0" + strings.Repeat("x", 63) + "1" + strings.Repeat("x", 63) + "2"
	change(t, l, api.OpPut, 9, "n", data)
	chunks := carve.Cut(data)
	drive, v := open(t)
	for _, chunk := range chunks[1:] {
		v.Put(chunk)
		drive.Flip("b."+sha.Name(sha.Sum(chunk)), 0)
	}
	d := restores(t, l, "n", "n")
	says(t, "the first that is corrupt, though one ahead is missing", d.Fetch(v, l), api.Reply{Ask: 0, Err: api.ErrCorrupt, At: at(3, 1)}, api.Reply{Ask: 1, Err: api.ErrCorrupt, At: at(3, 1)})
	if len(v.List()) != 0 {
		t.Error("each of both asked for one")
	}
	d = restores(t, l, "n")
	says(t, "missing now", d.Fetch(v, l))
	if len(drive.Names("b.")) != 0 {
		t.Error("what is corrupt is taken away")
	}
}

// P22.4: chunks that nobody needs any more.
func TestP22_4Missing(t *testing.T) {
	l := led(t, "a", "b")
	_, v := open(t)
	d := restores(t, l, "a", "b")
	change(t, l, api.OpDrop, 10, "a", "")
	says(t, "dropped", d.Fetch(v, l), api.Reply{Ask: 0, Err: api.ErrMissing, At: at(3, 1)})
	change(t, l, api.OpPut, 11, "a", dataOf("a"))
	change(t, l, api.OpDrop, 12, "b", "")
	change(t, l, api.OpPut, 13, "b", dataOf("b"))
	says(t, "dropped, and put with the same sheet", d.Fetch(v, l))
	change(t, l, api.OpDrop, 14, "b", "")
	change(t, l, api.OpPut, 15, "b", "other")
	says(t, "another sheet", d.Fetch(v, l), api.Reply{Ask: 1, Err: api.ErrMissing, At: at(3, 1)})
	waits(t, d, 0)
	d = restores(t, l, "b")
	change(t, l, api.OpDrop, 16, "b", "")
	change(t, l, api.OpPut, 17, "b", "oTHER")
	says(t, "another sheet of as many bytes", d.Fetch(v, l), api.Reply{Ask: 0, Err: api.ErrMissing, At: at(9, 1)})
	d = restores(t, l, "a")
	says(t, "no vault", d.Fetch(nil, l))
	says(t, "no vault, no ledger", d.Fetch(nil, nil), api.Reply{Ask: 0, Err: api.ErrMissing, At: at(11, 1)})
}

// P22.5: what is waited for; all are dropped.
func TestP22_5Needs(t *testing.T) {
	l := led(t, "a", "bc")
	change(t, l, api.OpPut, 9, "a2", dataOf("a"))
	d := restores(t, l, "bc", "a", "a2")
	add(t, d, 7, ask(api.AskRestore, "a", 0, 0), 7, 1)
	add(t, d, 8, ask(api.AskPut, "q", api.ModeSync, 0), 8, 1)
	d.Agreed(8, 1, ok(2, 1), l)
	var want []string
	for _, name := range []string{"a", "bc"} {
		s, _ := l.Sheet(name)
		want = append(want, s.Hashes...)
	}
	slices.Sort(want)
	want = slices.Compact(want)
	if got := d.Needs(); !slices.Equal(got, want) {
		t.Errorf("%d needs, not %d", len(got), len(want))
	}
	says(t, "all", d.Drop(), api.Reply{Ask: 0, Err: api.ErrUnsure}, api.Reply{Ask: 1, Err: api.ErrUnsure}, api.Reply{Ask: 2, Err: api.ErrUnsure}, api.Reply{Ask: 7, Err: api.ErrUnsure}, api.Reply{Ask: 8, Err: api.ErrUnsure})
	waits(t, d, 0)
	says(t, "none", d.Drop())
	if len(d.Needs()) != 0 {
		t.Error("needs of none")
	}
}

// P22.6: a copy goes its own way; no desk.
func TestP22_6Copy(t *testing.T) {
	l := led(t, "a")
	d := restores(t, l, "a")
	add(t, d, 5, ask(api.AskPut, "x", api.ModeLag, 1), 5, 2)
	c := d.Copy()
	waits(t, c, 2)
	d.Drop()
	waits(t, c, 2)
	_, v := open(t, "a")
	says(t, "the copy's", c.Fetch(v, l), api.Reply{Ask: 0, At: at(2, 1), Data: dataOf("a")})
	says(t, "the copy's", c.Agreed(5, 2, ok(2, 1), l))
	e := c.Copy()
	says(t, "not far enough", e.Settle(l, reach(at(2, 1)), at(0, 0), api.Reach{}))
	says(t, "far enough", e.Settle(l, reach(at(2, 1)), at(1, 1), api.Reach{}), api.Reply{Ask: 5, At: at(2, 1)})
	waits(t, c, 1)
	waits(t, d, 0)
}

// P22.6: no desk.
func TestP22_6Nil(t *testing.T) {
	var d *desk.Desk
	l := led(t)
	if d.Add(0, ask(api.AskList, "", 0, 0), 0, 0) != api.ErrNil || d.Agreed(0, 0, ok(0, 0), l) != nil || d.Settle(l, api.Reach{}, at(0, 0), api.Reach{}) != nil || d.Fetch(nil, l) != nil || d.Needs() != nil || d.Drop() != nil || d.Len() != 0 || d.Copy() != nil {
		t.Error("a nil desk answers something")
	}
}

// P22.7: each request is answered once at most, also by the chapter's example.
func TestP22_7Once(t *testing.T) {
	l := led(t, "a")
	d := desk.New()
	add(t, d, 0, ask(api.AskPut, "a", 0, 0), 1, 1)
	says(t, "agreed", d.Agreed(1, 1, ok(2, 1), l))
	says(t, "agreed again", d.Agreed(1, 2, api.Done{Err: api.ErrThere}, l))
	says(t, "nothing", d.Settle(l, reach(at(1, 1)), at(0, 0), api.Reach{}))
	says(t, "a hole", d.Settle(l, reach(at(2, 1), 2), at(0, 0), api.Reach{}))
	says(t, "there", d.Settle(l, reach(at(2, 1)), at(0, 0), api.Reach{}), api.Reply{Ask: 0, At: at(2, 1)})
	says(t, "again", d.Settle(l, reach(at(2, 1)), at(0, 0), api.Reach{}))
	says(t, "and again", d.Agreed(1, 1, ok(2, 1), l))
	says(t, "and dropped", d.Drop())
	add(t, d, 0, ask(api.AskPut, "a", 0, 0), 1, 1)
	says(t, "another term", d.Agreed(1, 2, ok(2, 1), l), api.Reply{Ask: 0, Err: api.ErrUnsure})
}

// P22.7: bytes are answered only if their digests are those of the sheet.
func TestP22_7Digests(t *testing.T) {
	l := led(t)
	s, _ := sheet.Make("abc")
	s.Size = 2 // what nobody can build
	l.Apply(api.Command{Kind: api.CmdDo, Epoch: 1, Op: api.Op{Kind: api.OpPut, Seq: 1, Name: "a", Sheet: s}})
	_, v := open(t)
	v.Put("abc")
	d := restores(t, l, "a")
	says(t, "not as many bytes", d.Fetch(v, l), api.Reply{Ask: 0, Err: api.ErrCorrupt, At: at(2, 1)})
	waits(t, d, 0)
}

// Rule 5: what is answered is new memory, and two replies share none.
func TestRule5Memory(t *testing.T) {
	l := led(t, "a", "b")
	d := desk.New()
	add(t, d, 0, ask(api.AskList, "", 0, 0), 1, 1)
	add(t, d, 1, ask(api.AskList, "", 0, 0), 1, 1)
	r := d.Agreed(1, 1, ok(0, 0), l)
	r[0].Names[0] = "changed"
	if !slices.Equal(r[1].Names, []string{"a", "b"}) || !slices.Equal(l.Names(), []string{"a", "b"}) {
		t.Error("shared names")
	}
	d = restores(t, l, "a")
	d.Needs()[0] = "changed"
	_, v := open(t, "a")
	says(t, "needs", d.Fetch(v, l), api.Reply{Ask: 0, At: at(3, 1), Data: dataOf("a")})
	holes := []int{3}
	d = desk.New()
	add(t, d, 0, ask(api.AskPut, "b", 0, 0), 1, 1)
	d.Agreed(1, 1, ok(2, 1), l)
	d.Settle(l, reach(at(3, 1), holes...), at(0, 0), api.Reach{})
	if holes[0] != 3 {
		t.Error(holes)
	}
}
