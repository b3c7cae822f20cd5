package ledger_test

import (
	"math/rand"
	"slices"
	"strings"
	"testing"

	"redoubt/api"
	"redoubt/deed"
	"redoubt/ledger"
	"redoubt/pack"
	"redoubt/sheet"
)

func sheetOf(data string) api.Sheet {
	s, _ := sheet.Make(data)
	return s
}

func reign(epoch, site int) api.Command {
	return api.Command{Kind: api.CmdReign, Epoch: epoch, Site: site}
}

func put(epoch, site, client, seq int, name, data string) api.Command {
	return api.Command{Kind: api.CmdDo, Epoch: epoch, Site: site, Op: api.Op{Kind: api.OpPut, Client: client, Seq: seq, Name: name, Sheet: sheetOf(data)}}
}

func drop(epoch, site, client, seq int, name string) api.Command {
	return api.Command{Kind: api.CmdDo, Epoch: epoch, Site: site, Op: api.Op{Kind: api.OpDrop, Client: client, Seq: seq, Name: name}}
}

func ship(epoch, site, after, since int, ops ...api.Op) api.Command {
	return api.Command{Kind: api.CmdShip, Epoch: epoch, Site: site, After: after, Since: since, Ops: ops}
}

func mark(epoch, site, after, since int) api.Command {
	return api.Command{Kind: api.CmdMark, Epoch: epoch, Site: site, After: after, Since: since}
}

func reignOp(n, epoch, site int) api.Op {
	return api.Op{N: n, Epoch: epoch, Kind: api.OpReign, Site: site}
}

func putOp(n, epoch, site, client, seq int, name, data string) api.Op {
	return api.Op{N: n, Epoch: epoch, Kind: api.OpPut, Site: site, Client: client, Seq: seq, Name: name, Sheet: sheetOf(data)}
}

func dropOp(n, epoch, site, client, seq int, name string) api.Op {
	return api.Op{N: n, Epoch: epoch, Kind: api.OpDrop, Site: site, Client: client, Seq: seq, Name: name}
}

func made(t *testing.T, quota, room int, commands ...api.Command) *ledger.Ledger {
	t.Helper()
	l, e := ledger.New(quota, room)
	if e != api.OK || l == nil {
		t.Fatal("New", e)
	}
	for i, c := range commands {
		if d := l.Apply(c); d.Err != api.OK {
			t.Fatal("command", i, d)
		}
	}
	return l
}

// does applies a command and checks what it comes to; behind an error, but where the fence may rise, nothing is another one.
func does(t *testing.T, l *ledger.Ledger, what string, c api.Command, e api.Errno, n, epoch int) {
	t.Helper()
	before := l.Pack()
	if d := l.Apply(c); d != (api.Done{Err: e, At: api.Spot{N: n, Epoch: epoch}}) {
		t.Errorf("%s: %v, not %d {%d %d}", what, d, e, n, epoch)
	}
	if e != api.OK && e != api.ErrGap && l.Pack() != before {
		t.Errorf("%s: refused, and something changed", what)
	}
}

func sameOp(a, b api.Op) bool { return deed.PackOps(a) == deed.PackOps(b) }

func hasOps(t *testing.T, l *ledger.Ledger, ops ...api.Op) {
	t.Helper()
	if !slices.EqualFunc(l.Ops(), ops, sameOp) {
		t.Errorf("operations %v, not %v", l.Ops(), ops)
	}
}

// P12.1: which quota and room may be.
func TestP12_1New(t *testing.T) {
	for _, x := range []struct {
		quota, room int
		e           api.Errno
	}{{1, 1, api.OK}, {1 << 16, 64, api.OK}, {0, 1, api.ErrArg}, {-1, 1, api.ErrArg}, {1<<16 + 1, 1, api.ErrArg}, {1, 0, api.ErrArg}, {1, -1, api.ErrArg}, {1, 65, api.ErrArg}} {
		l, e := ledger.New(x.quota, x.room)
		if e != x.e || (l != nil) != (e == api.OK) {
			t.Error(x, e)
		}
		if e == api.OK && (len(l.Ops()) != 0 || l.Fence() != 0 || l.Last() != (api.Spot{}) || l.Holder() != (api.Grant{}) || l.Settled() != 0 || l.Used() != 0) {
			t.Error("a new ledger has something")
		}
	}
}

// P12.2: commands that aren't right, and those that do nothing.
func TestP12_2Form(t *testing.T) {
	l := made(t, 100, 9)
	does(t, l, "idle", api.Command{}, api.OK, 0, 0)
	does(t, l, "wrong kind", api.Command{Kind: 6}, api.ErrForm, 0, 0)
	does(t, l, "idle with a tag", api.Command{Tag: 1}, api.ErrForm, 0, 0)
	does(t, l, "reign 0", reign(0, 0), api.ErrForm, 0, 0)
	does(t, l, "reign 17", reign(17, 0), api.ErrForm, 0, 0)
	does(t, l, "a put without a name", put(1, 0, 0, 1, "", "x"), api.ErrForm, 0, 0)
	does(t, l, "reign", reign(2, 1), api.OK, 1, 2)
	does(t, l, "idle", api.Command{}, api.OK, 1, 2)
	does(t, l, "look", api.Command{Kind: api.CmdLook, Tag: 5}, api.OK, 1, 2)
}

// P12.2: epochs begin, each once.
func TestP12_2Reign(t *testing.T) {
	l := made(t, 100, 9)
	does(t, l, "first", reign(1, 0), api.OK, 1, 1)
	does(t, l, "again", reign(1, 0), api.ErrStale, 0, 0)
	does(t, l, "of the other site", reign(1, 1), api.ErrStale, 0, 0)
	does(t, l, "later", reign(5, 1), api.OK, 2, 5)
	does(t, l, "below", reign(4, 1), api.ErrStale, 0, 0)
	does(t, l, "a fence", ship(7, 0, 0, 0), api.OK, 0, 0)
	does(t, l, "at the fence", reign(7, 0), api.ErrStale, 0, 0)
	does(t, l, "above the fence", reign(8, 0), api.OK, 3, 8)
	hasOps(t, l, reignOp(1, 1, 0), reignOp(2, 5, 1), reignOp(3, 8, 0))
	if l.Fence() != 8 || l.Holder() != (api.Grant{Epoch: 8}) {
		t.Error(l.Fence(), l.Holder())
	}
}

// P12.2: reigns have room up to 80 operations, others up to the ledger's.
func TestP12_2Saturated(t *testing.T) {
	l := made(t, 1<<16, 3, reign(1, 0), put(1, 0, 0, 1, "a", "x"))
	does(t, l, "room for three", put(1, 0, 0, 2, "b", "y"), api.OK, 3, 1)
	does(t, l, "no more", put(1, 0, 0, 3, "c", "z"), api.ErrSaturated, 0, 0)
	does(t, l, "no drop", drop(1, 0, 0, 3, "a"), api.ErrSaturated, 0, 0)
	does(t, l, "done before", put(1, 0, 0, 2, "b", "y"), api.OK, 3, 1)
	does(t, l, "ErrThere stands ahead", put(1, 0, 0, 3, "a", "z"), api.ErrThere, 0, 0)
	does(t, l, "ErrNotFound stands ahead", drop(1, 0, 0, 3, "q"), api.ErrNotFound, 0, 0)
	does(t, l, "a reign", reign(2, 0), api.OK, 4, 2)
	does(t, l, "still none", put(2, 0, 0, 3, "c", "z"), api.ErrSaturated, 0, 0)
	var ops []api.Op
	ops = append(ops, reignOp(1, 1, 1))
	for n := 2; n <= 80; n++ {
		ops = append(ops, putOp(n, 1, 1, 0, n, "n"+string(rune(n)), ""))
	}
	l = made(t, 1<<16, 64)
	for i := 0; i < 80; i += 8 {
		after := api.Spot{}
		if i > 0 {
			after = api.Spot{N: i, Epoch: 1}
		}
		does(t, l, "ship", ship(1, 1, after.N, after.Epoch, ops[i:i+8]...), api.OK, i+8, 1)
	}
	does(t, l, "80 of them", reign(2, 0), api.ErrSaturated, 0, 0)
	if l.Fence() != 1 {
		t.Error("the fence", l.Fence())
	}
}

// P12.2: puts and drops of clients.
func TestP12_2Do(t *testing.T) {
	l := made(t, 10, 64)
	does(t, l, "no epoch", put(1, 0, 2, 1, "a", "x"), api.ErrStale, 0, 0)
	does(t, l, "reign", reign(1, 0), api.OK, 1, 1)
	does(t, l, "another site", put(1, 1, 2, 1, "a", "x"), api.ErrStale, 0, 0)
	does(t, l, "another epoch", put(2, 0, 2, 1, "a", "x"), api.ErrStale, 0, 0)
	does(t, l, "a put", put(1, 0, 2, 1, "a", "x"), api.OK, 2, 1)
	does(t, l, "again", put(1, 0, 2, 1, "a", "x"), api.OK, 2, 1)
	does(t, l, "again, whatever else", drop(1, 0, 2, 1, "other"), api.OK, 2, 1)
	does(t, l, "there", put(1, 0, 2, 2, "a", "x"), api.ErrThere, 0, 0)
	does(t, l, "there for others", put(1, 0, 3, 1, "a", ""), api.ErrThere, 0, 0)
	does(t, l, "no such name", drop(1, 0, 2, 2, "b"), api.ErrNotFound, 0, 0)
	does(t, l, "too many bytes", put(1, 0, 2, 5, "b", "0123456789"), api.ErrQuota, 0, 0)
	does(t, l, "just as many", put(1, 0, 2, 5, "b", "012345678"), api.OK, 3, 1)
	does(t, l, "old", put(1, 0, 2, 4, "c", ""), api.ErrOld, 0, 0)
	does(t, l, "old, though there", put(1, 0, 2, 1, "a", "x"), api.ErrOld, 0, 0)
	does(t, l, "no bytes have room", put(1, 0, 2, 6, "c", ""), api.OK, 4, 1)
	does(t, l, "one has not", put(1, 0, 2, 7, "d", "x"), api.ErrQuota, 0, 0)
	does(t, l, "a drop", drop(1, 0, 7, 1<<40, "b"), api.OK, 5, 1)
	does(t, l, "dropped", drop(1, 0, 2, 8, "b"), api.ErrNotFound, 0, 0)
	does(t, l, "put anew", put(1, 0, 2, 8, "b", "new"), api.OK, 6, 1)
	does(t, l, "that client's", put(1, 0, 7, 1<<40, "z", "new"), api.OK, 5, 1)
	hasOps(t, l, reignOp(1, 1, 0), putOp(2, 1, 0, 2, 1, "a", "x"), putOp(3, 1, 0, 2, 5, "b", "012345678"), putOp(4, 1, 0, 2, 6, "c", ""), dropOp(5, 1, 0, 7, 1<<40, "b"), putOp(6, 1, 0, 2, 8, "b", "new"))
	does(t, l, "a fence", ship(2, 1, 0, 0), api.OK, 0, 0)
	does(t, l, "behind the fence", put(1, 0, 2, 9, "q", ""), api.ErrStale, 0, 0)
	does(t, l, "again, behind the fence", put(1, 0, 2, 8, "b", "new"), api.ErrStale, 0, 0)
	does(t, l, "the fence isn't the holder's", put(2, 1, 2, 9, "q", ""), api.ErrStale, 0, 0)
}

// P12.2: operations of the other site: what stands, and what is lost.
func TestP12_2Ship(t *testing.T) {
	l := made(t, 100, 64, reign(1, 0), put(1, 0, 2, 1, "a", "aaa"), put(1, 0, 3, 1, "b", "bb"))
	does(t, l, "the holder's epoch, another site", ship(1, 1, 1, 1), api.ErrStale, 0, 0)
	does(t, l, "the chapter's example", ship(2, 1, 1, 1, reignOp(2, 2, 1)), api.OK, 2, 2)
	hasOps(t, l, reignOp(1, 1, 0), reignOp(2, 2, 1))
	bare := func(o api.Op) api.Op { o.Sheet.Hashes = nil; return o }
	lost := []api.Op{bare(putOp(2, 1, 0, 2, 1, "a", "aaa")), bare(putOp(3, 1, 0, 3, 1, "b", "bb"))}
	if !slices.EqualFunc(l.Lost(), lost, sameOp) {
		t.Errorf("lost %v", l.Lost())
	}
	if l.Fence() != 2 || l.Holder() != (api.Grant{Epoch: 2, Site: 1}) || l.Used() != 0 || len(l.Names()) != 0 {
		t.Error(l.Fence(), l.Holder(), l.Used())
	}
	does(t, l, "below the fence", ship(1, 0, 1, 1), api.ErrStale, 0, 0)
	does(t, l, "of epoch 1", put(1, 0, 2, 2, "c", ""), api.ErrStale, 0, 0)
	does(t, l, "more, some of which is there", ship(2, 1, 1, 1, reignOp(2, 2, 1), putOp(3, 2, 1, 0, 1, "c", "ccc"), putOp(4, 2, 1, 0, 2, "d", "")), api.OK, 4, 2)
	does(t, l, "all of it is there", ship(2, 1, 1, 1, reignOp(2, 2, 1), putOp(3, 2, 1, 0, 1, "c", "ccc")), api.OK, 3, 2)
	does(t, l, "none", ship(2, 1, 3, 2), api.OK, 3, 2)
	does(t, l, "none, at the front", ship(2, 1, 0, 0), api.OK, 0, 0)
	hasOps(t, l, reignOp(1, 1, 0), reignOp(2, 2, 1), putOp(3, 2, 1, 0, 1, "c", "ccc"), putOp(4, 2, 1, 0, 2, "d", ""))
	if len(l.Lost()) != 2 {
		t.Error(l.Lost())
	}
}

// P12.2: what has the same number and epoch is passed over, whatever else it is.
func TestP12_2ShipPassed(t *testing.T) {
	l := made(t, 100, 64, reign(1, 0), put(1, 0, 2, 1, "a", "aaa"))
	does(t, l, "passed", ship(1, 0, 1, 1, putOp(2, 1, 0, 5, 5, "other", "x"), putOp(3, 1, 0, 5, 6, "more", "x")), api.OK, 3, 1)
	hasOps(t, l, reignOp(1, 1, 0), putOp(2, 1, 0, 2, 1, "a", "aaa"), putOp(3, 1, 0, 5, 6, "more", "x"))
}

// P12.2: gaps; the fence rises all the same.
func TestP12_2ShipGap(t *testing.T) {
	l := made(t, 100, 64, reign(1, 0), put(1, 0, 2, 1, "a", "aaa"))
	ops := l.Ops()
	does(t, l, "behind what isn't there", ship(2, 1, 3, 1), api.ErrGap, 0, 0)
	does(t, l, "behind another epoch", ship(3, 1, 2, 2, reignOp(3, 3, 1)), api.ErrGap, 0, 0)
	if l.Fence() != 3 || l.Holder() != (api.Grant{Epoch: 1}) {
		t.Error(l.Fence(), l.Holder())
	}
	does(t, l, "the epoch is the holder's, the fence is above", ship(1, 0, 2, 1), api.ErrStale, 0, 0)
	does(t, l, "another site's operation behind one of this", ship(4, 1, 2, 1, putOp(3, 1, 1, 0, 1, "b", "")), api.ErrGap, 0, 0)
	does(t, l, "the same, passed over first", ship(4, 1, 1, 1, putOp(2, 1, 1, 0, 1, "b", ""), putOp(3, 1, 1, 0, 2, "b", "")), api.ErrGap, 0, 0)
	hasOps(t, l, ops...)
	if l.Fence() != 4 || len(l.Lost()) != 0 || l.Settled() != 0 {
		t.Error(l.Fence(), l.Lost(), l.Settled())
	}
	does(t, l, "a reign of any site", ship(5, 1, 2, 1, reignOp(3, 5, 1)), api.OK, 3, 5)
}

// P12.2: what is settled, by what is shipped and by marks.
func TestP12_2Settled(t *testing.T) {
	l := made(t, 100, 64, reign(1, 0), put(1, 0, 2, 1, "a", ""), put(1, 0, 2, 2, "b", ""), put(1, 0, 2, 3, "c", ""))
	settled := func(n int) {
		t.Helper()
		if l.Settled() != n {
			t.Errorf("settled %d, not %d", l.Settled(), n)
		}
	}
	settled(0)
	does(t, l, "mark", mark(1, 0, 2, 1), api.OK, 2, 1)
	settled(2)
	does(t, l, "less", mark(1, 0, 1, 1), api.OK, 1, 1)
	settled(2)
	does(t, l, "not there", mark(1, 0, 5, 1), api.ErrGap, 0, 0)
	does(t, l, "another site", mark(1, 1, 3, 1), api.ErrStale, 0, 0)
	does(t, l, "another epoch", mark(2, 0, 3, 1), api.ErrStale, 0, 0)
	settled(2)
	does(t, l, "mark", mark(1, 0, 4, 1), api.OK, 4, 1)
	settled(4)
	does(t, l, "where two are lost", ship(2, 1, 2, 1, reignOp(3, 2, 1)), api.OK, 3, 2)
	settled(3)
	does(t, l, "the fence is above", mark(1, 0, 3, 1), api.ErrStale, 0, 0)
	does(t, l, "a place of an epoch that isn't there", mark(2, 1, 3, 1), api.ErrGap, 0, 0)
	does(t, l, "ship", ship(2, 1, 3, 2, putOp(4, 2, 1, 0, 1, "x", "")), api.OK, 4, 2)
	settled(4)
	does(t, l, "ship of less", ship(2, 1, 1, 1), api.OK, 1, 1)
	settled(4)
	does(t, l, "where more is lost than settled", ship(3, 0, 1, 1, reignOp(2, 3, 0)), api.OK, 2, 3)
	settled(2)
	does(t, l, "reign", reign(4, 1), api.OK, 3, 4)
	settled(2)
	does(t, l, "a place of an epoch ahead", mark(4, 1, 2, 3), api.OK, 2, 3)
}

// oracle tells by the words of the chapter what comes of operations.
func liveAt(ops []api.Op, name string) (api.Op, bool) {
	for _, o := range slices.Backward(ops) {
		if o.Kind != api.OpReign && o.Name == name {
			return o, o.Kind == api.OpPut
		}
	}
	return api.Op{}, false
}

func neededOf(ops []api.Op, settled int) (list []api.Op) {
	for i, o := range ops {
		need := false
		for n := max(settled, i+1); n <= len(ops); n++ {
			last, live := liveAt(ops[:n], o.Name)
			need = need || o.Kind == api.OpPut && live && last.N == o.N
		}
		if need {
			list = append(list, o)
		}
	}
	return list
}

// agrees checks P12.3 of a ledger, by the words alone.
func agrees(t *testing.T, l *ledger.Ledger) {
	t.Helper()
	ops := l.Ops()
	var names, needs []string
	used := 0
	for _, o := range ops {
		if s, live := liveAt(ops, o.Name); o.Kind != api.OpReign && live && !slices.Contains(names, o.Name) {
			names = append(names, o.Name)
			used += s.Sheet.Size
			if got, ok := l.Sheet(o.Name); !ok || got.Size != s.Sheet.Size || !slices.Equal(got.Hashes, s.Sheet.Hashes) {
				t.Fatalf("sheet of %q", o.Name)
			}
		}
	}
	slices.Sort(names)
	puts := neededOf(ops, l.Settled())
	for _, o := range puts {
		needs = append(needs, o.Sheet.Hashes...)
	}
	slices.Sort(needs)
	needs = slices.Compact(needs)
	if !slices.Equal(l.Names(), names) || l.Used() != used || !slices.EqualFunc(l.Puts(), puts, sameOp) || !slices.Equal(l.Needs(), needs) {
		t.Fatalf("names %q, used %d, puts %v, needs %d", l.Names(), l.Used(), l.Puts(), len(l.Needs()))
	}
	last, holder := api.Spot{}, api.Grant{}
	for _, o := range ops {
		last = api.Spot{N: o.N, Epoch: o.Epoch}
		if o.Kind == api.OpReign {
			holder = api.Grant{Epoch: o.Epoch, Site: o.Site}
		}
	}
	if l.Last() != last || l.Holder() != holder {
		t.Fatal(l.Last(), l.Holder())
	}
}

// P12.3: what is live, what is used, what is needed.
func TestP12_3Told(t *testing.T) {
	long := strings.Repeat("l", 100)
	l := made(t, 1000, 64, reign(1, 0), put(1, 0, 0, 1, "b", "bb"), put(1, 0, 0, 2, "a", long), put(1, 0, 0, 3, "\xff", "bb"), drop(1, 0, 0, 4, "b"))
	if !slices.Equal(l.Names(), []string{"a", "\xff"}) || l.Used() != 102 {
		t.Error(l.Names(), l.Used())
	}
	if s, ok := l.Sheet("a"); !ok || s.Size != 100 || len(s.Hashes) != 2 {
		t.Error(s, ok)
	}
	for _, name := range []string{"b", "", "q", "A"} {
		if s, ok := l.Sheet(name); ok || s.Size != 0 || s.Hashes != nil {
			t.Error(name, s, ok)
		}
	}
	numbers := func(want ...int) {
		t.Helper()
		var got []int
		for _, o := range l.Puts() {
			got = append(got, o.N)
		}
		if !slices.Equal(got, want) {
			t.Errorf("needed are %v, not %v", got, want)
		}
		agrees(t, l)
	}
	numbers(2, 3, 4)
	if len(l.Needs()) != 3 {
		t.Error("each hash once", len(l.Needs()))
	}
	l.Apply(mark(1, 0, 4, 1))
	numbers(2, 3, 4)
	l.Apply(mark(1, 0, 5, 1))
	numbers(3, 4)
	l.Apply(put(1, 0, 0, 5, "b", "new"))
	l.Apply(drop(1, 0, 0, 6, "a"))
	l.Apply(put(1, 0, 0, 7, "a", "again"))
	numbers(3, 4, 6, 8)
	l.Apply(mark(1, 0, 7, 1))
	numbers(4, 6, 8)
}

// P12.4: a ledger as bytes, by the words.
func TestP12_4Pack(t *testing.T) {
	l := made(t, 100, 64)
	if s := l.Pack(); s != "\x00\x00\x00\x00" {
		t.Errorf("%x", s)
	}
	for _, c := range []api.Command{reign(1, 0), put(1, 0, 2, 1, "a", "aaa"), drop(1, 0, 2, 2, "a"), mark(1, 0, 2, 1), ship(2, 1, 2, 1, reignOp(3, 2, 1)), ship(3, 0, 1, 1, reignOp(2, 3, 0))} {
		l.Apply(c)
		want := pack.Nums(l.Fence(), l.Settled()) + deed.PackOps(l.Ops()...) + pack.Nums(len(l.Lost()))
		for _, o := range l.Lost() {
			want += pack.Nums(o.N, o.Epoch, o.Kind, o.Site, o.Client, o.Seq, o.Sheet.Size) + pack.Text(o.Name)
		}
		s := l.Pack()
		if s != want {
			t.Errorf("%x, not %x", s, want)
		}
		got, e := ledger.Load(100, 64, s)
		if e != api.OK || got.Pack() != s || !slices.EqualFunc(got.Ops(), l.Ops(), sameOp) || !slices.EqualFunc(got.Lost(), l.Lost(), sameOp) || got.Fence() != l.Fence() || got.Settled() != l.Settled() {
			t.Error("Load", e)
		}
		agrees(t, got)
		for cut := range s {
			if got, e := ledger.Load(100, 64, s[:cut]); got != nil || e != api.ErrForm {
				t.Error(cut, e)
			}
		}
		if got, e := ledger.Load(100, 64, s+"\x00"); got != nil || e != api.ErrForm {
			t.Error("more", e)
		}
	}
}

// P12.4: what a load goes on with.
func TestP12_4Goes(t *testing.T) {
	l := made(t, 100, 64, reign(1, 0), put(1, 0, 2, 1, "a", "aaa"), put(1, 0, 2, 2, "b", "b"))
	got, e := ledger.Load(5, 3, l.Pack())
	if e != api.OK {
		t.Fatal(e)
	}
	does(t, got, "quota", put(1, 0, 2, 3, "c", "cc"), api.ErrQuota, 0, 0)
	does(t, got, "room", put(1, 0, 2, 3, "c", "c"), api.ErrSaturated, 0, 0)
	does(t, got, "there", put(1, 0, 2, 3, "a", ""), api.ErrThere, 0, 0)
	does(t, got, "done", put(1, 0, 2, 2, "b", ""), api.OK, 3, 1)
	for _, x := range []struct{ quota, room int }{{0, 3}, {1<<16 + 1, 3}, {5, 0}, {5, 65}} {
		for _, s := range []string{l.Pack(), "bad"} {
			if got, e := ledger.Load(x.quota, x.room, s); got != nil || e != api.ErrArg {
				t.Error(x, e)
			}
		}
	}
}

// P12.4: bytes that are no ledger's.
func TestP12_4None(t *testing.T) {
	ops := deed.PackOps(reignOp(1, 2, 0), putOp(2, 2, 0, 0, 1, "a", "x"))
	lost := func(nums ...int) string { return pack.Nums(1) + pack.Nums(nums...) + pack.Text("a") }
	good := []string{pack.Nums(2, 0) + ops + "\x00", pack.Nums(16, 2) + ops + "\x00", pack.Nums(0, 0) + "\x00\x00", pack.Nums(16, 0) + "\x00\x00", pack.Nums(2, 0) + ops + lost(1, 1, 1, 0, 0, 0, 0), pack.Nums(2, 0) + ops + lost(80, 16, 3, 1, 7, 1<<40, 512), pack.Nums(2, 0) + ops + "\x02" + pack.Nums(1, 1, 3, 0, 0, 0, 0) + pack.Text(""), pack.Nums(2, 0) + ops + "\x02" + pack.Nums(1, 1, 3, 0, 0, 0, 0) + pack.Text("sixteen bytes...")}
	for i, s := range good {
		if l, e := ledger.Load(100, 64, s); e != api.OK || l.Pack() != s {
			t.Error("good", i, e)
		}
	}
	bad := []string{"", pack.Nums(1, 0) + ops + "\x00", pack.Nums(17, 0) + ops + "\x00", pack.Nums(2, 3) + ops + "\x00", pack.Nums(2, -1) + ops + "\x00", pack.Nums(-1, 0) + "\x00\x00", pack.Nums(17, 0) + "\x00\x00", pack.Nums(0, 1) + "\x00\x00",
		pack.Nums(2, 0) + deed.PackOps(putOp(1, 2, 0, 0, 1, "a", "x")) + "\x00", pack.Nums(2, 0) + deed.PackOps(reignOp(2, 2, 0)) + "\x00", pack.Nums(2, 0) + deed.PackOps(reignOp(1, 2, 0), putOp(2, 2, 1, 0, 1, "a", "x")) + "\x00", pack.Nums(2, 0) + deed.PackOps(api.Op{}) + "\x00",
		pack.Nums(2, 0) + ops + "\x02" + pack.Nums(1, 1, 3, 0, 0, 0, 0) + pack.Text("seventeen bytes.."), pack.Nums(2, 0) + ops + "\x04" + pack.Nums(1, 1, 3, 0, 0, 0, 0) + pack.Text("")}
	for i := range 7 {
		least, most := []int{0, 0, 0, -1, -1, -1, -1}, []int{81, 17, 4, 2, 8, 1<<40 + 1, 513}
		for _, wrong := range []int{least[i], most[i]} {
			nums := []int{1, 1, 1, 0, 0, 0, 0}
			nums[i] = wrong
			bad = append(bad, pack.Nums(2, 0)+ops+lost(nums...))
		}
	}
	for i, s := range bad {
		if l, e := ledger.Load(100, 64, s); l != nil || e != api.ErrForm {
			t.Errorf("bad %d, %x: %d", i, s, e)
		}
	}
}

// P12.5: a copy goes its own way; no ledger.
func TestP12_5Copy(t *testing.T) {
	l := made(t, 100, 64, reign(1, 0), put(1, 0, 2, 1, "a", "aaa"), ship(2, 1, 1, 1, reignOp(2, 2, 1)), reign(3, 0), put(3, 0, 2, 1, "b", "bbb"))
	c, s := l.Copy(), l.Pack()
	if c.Pack() != s {
		t.Error("a copy")
	}
	agrees(t, c)
	does(t, c, "the copy's", put(3, 0, 2, 2, "c", "c"), api.OK, 5, 3)
	does(t, l, "the first one's", drop(3, 0, 2, 2, "b"), api.OK, 5, 3)
	if !slices.Equal(c.Names(), []string{"b", "c"}) || len(l.Names()) != 0 {
		t.Error(c.Names(), l.Names())
	}
	for i := range 6 { // each one's operations have room of their own
		x := l.Copy()
		y := x.Copy()
		does(t, x, "one", put(3, 0, 5, 3+i, "x", ""), api.OK, 6+i, 3)
		does(t, y, "other", put(3, 0, 6, 3+i, "y", ""), api.OK, 6+i, 3)
		if a, b := x.Ops()[5+i], y.Ops()[5+i]; a.Name != "x" || b.Name != "y" {
			t.Error("both have one memory", a, b)
		}
		does(t, l, "more", put(3, 0, 7, 3+i, "l"+string(rune('0'+i)), ""), api.OK, 6+i, 3)
	}
	does(t, l, "shipped", ship(4, 1, 1, 1, reignOp(2, 4, 1)), api.OK, 2, 4)
	if len(c.Lost()) != 1 || len(c.Ops()) != 5 || c.Fence() != 3 {
		t.Error("the copy lost something")
	}
	agrees(t, l)
	agrees(t, c)
}

// P12.5: no ledger.
func TestP12_5Nil(t *testing.T) {
	var l *ledger.Ledger
	if l.Apply(api.Command{}) != (api.Done{Err: api.ErrNil}) || l.Ops() != nil || l.Lost() != nil || l.Fence() != 0 || l.Holder() != (api.Grant{}) || l.Last() != (api.Spot{}) || l.Names() != nil || l.Puts() != nil || l.Needs() != nil || l.Settled() != 0 || l.Used() != 0 || l.Pack() != "" || l.Copy() != nil {
		t.Error("a nil ledger answers something")
	}
	if s, ok := l.Sheet("a"); s.Size != 0 || s.Hashes != nil || ok {
		t.Error(s, ok)
	}
}

// P12.6: whatever commands come, the operations are a row, and the fence never falls.
func TestP12_6Any(t *testing.T) {
	rnd := rand.New(rand.NewSource(1))
	names := []string{"a", "b", "c"}
	for range 150 {
		l := made(t, 600, 40)
		seq := 1
		for range 60 {
			fence, before := l.Fence(), l.Ops()
			epoch, site := fence+rnd.Intn(2), rnd.Intn(2)
			if h := l.Holder(); rnd.Intn(3) > 0 {
				epoch, site = h.Epoch, h.Site
			}
			seq += rnd.Intn(2)
			var c api.Command
			switch rnd.Intn(6) {
			case 0:
				c = reign(min(fence+rnd.Intn(2), 16), site)
			case 1, 2:
				c = put(epoch, site, rnd.Intn(2), seq, names[rnd.Intn(3)], strings.Repeat("x", rnd.Intn(300)))
			case 3:
				c = drop(epoch, site, rnd.Intn(2), seq, names[rnd.Intn(3)])
			case 4:
				at := api.Spot{}
				if n := len(before); n > 0 && rnd.Intn(9) > 0 {
					o := before[rnd.Intn(n)]
					at = api.Spot{N: o.N, Epoch: o.Epoch}
				}
				ops := []api.Op{reignOp(at.N+1, epoch+1, site), putOp(at.N+2, epoch+1, site, 0, seq, names[rnd.Intn(3)], "s")}
				c = ship(epoch+1, site, at.N, at.Epoch, ops[:rnd.Intn(3)]...)
			case 5:
				if n := len(before); n > 0 {
					o := before[rnd.Intn(n)]
					c = mark(epoch, site, o.N, o.Epoch)
				}
			}
			l.Apply(c)
			if !deed.Row(api.Spot{}, l.Ops()...) || l.Fence() < fence || l.Fence() < l.Last().Epoch || l.Settled() > len(l.Ops()) {
				t.Fatalf("behind %v: %v, fence %d", c, l.Ops(), l.Fence())
			}
			agrees(t, l)
			if got, e := ledger.Load(600, 40, l.Pack()); e != api.OK || got.Pack() != l.Pack() {
				t.Fatal("Load", e)
			}
		}
	}
}

// P12.6: two sites that ship their own operations in epochs that they hold have the same up to any one they both have.
func TestP12_6Two(t *testing.T) {
	rnd := rand.New(rand.NewSource(2))
	for range 100 {
		sites := [2]*ledger.Ledger{made(t, 1000, 64), made(t, 1000, 64)}
		granted, seq := 0, 0
		for range 80 {
			site := rnd.Intn(2)
			l := sites[site]
			h := l.Holder()
			holds := h.Site == site && h.Epoch == l.Fence() && h.Epoch > 0
			switch {
			case rnd.Intn(8) == 0 && granted < 16:
				granted++
				l.Apply(reign(granted, site))
			case rnd.Intn(2) == 0 && holds:
				seq++
				l.Apply(put(h.Epoch, site, site, seq, "n"+string(rune('a'+seq%26)), "x"))
			case holds:
				ops := l.Ops()
				from := rnd.Intn(len(ops) + 1)
				at := api.Spot{}
				if from > 0 {
					at = api.Spot{N: from, Epoch: ops[from-1].Epoch}
				}
				sites[1-site].Apply(ship(h.Epoch, site, at.N, at.Epoch, ops[from:min(from+1+rnd.Intn(8), len(ops))]...))
			}
			a, b := sites[0].Ops(), sites[1].Ops()
			for n := min(len(a), len(b)); n > 0; n-- {
				if a[n-1].Epoch == b[n-1].Epoch {
					if !slices.EqualFunc(a[:n], b[:n], sameOp) {
						t.Fatalf("up to %d: %v, %v", n, a[:n], b[:n])
					}
					break
				}
			}
		}
	}
}

// Rule 5: nothing that is handed in is kept or changed, and what is answered is new memory.
func TestRule5Memory(t *testing.T) {
	l := made(t, 1000, 64, reign(1, 0))
	c := put(1, 0, 0, 1, "a", "x")
	l.Apply(c)
	c.Op.Sheet.Hashes[0] = "changed"
	room := make([]api.Op, 1, 3)
	room[0] = putOp(3, 1, 0, 0, 2, "b", "y")
	l.Apply(ship(1, 0, 2, 1, room...))
	room[0].Sheet.Hashes[0] = "changed"
	s := l.Pack()
	l.Ops()[0].N = 9
	l.Ops()[1].Sheet.Hashes[0] = "changed"
	l.Puts()[0].Sheet.Hashes[0] = "changed"
	l.Names()[0] = "changed"
	l.Needs()[0] = "changed"
	x, _ := l.Sheet("a")
	x.Hashes[0] = "changed"
	if l.Pack() != s || !strings.Contains(s, sheetOf("x").Hashes[0]) || !strings.Contains(s, sheetOf("y").Hashes[0]) || room[:3][1].N != 0 {
		t.Error("something changed")
	}
	agrees(t, l)
}
