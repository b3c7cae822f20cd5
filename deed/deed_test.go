package deed_test

import (
	"slices"
	"strings"
	"testing"

	"redoubt/api"
	"redoubt/deed"
	"redoubt/pack"
	"redoubt/sheet"
)

func sheetOf(data string) api.Sheet {
	s, _ := sheet.Make(data)
	return s
}

func reign(n, epoch, site int) api.Op {
	return api.Op{N: n, Epoch: epoch, Kind: api.OpReign, Site: site}
}

func put(n, epoch, site int) api.Op {
	return api.Op{N: n, Epoch: epoch, Kind: api.OpPut, Site: site, Client: 2, Seq: 5, Name: "a", Sheet: sheetOf("data")}
}

func drop(n, epoch, site int) api.Op {
	return api.Op{N: n, Epoch: epoch, Kind: api.OpDrop, Site: site, Client: 7, Seq: 1 << 40, Name: "sixteen bytes..."}
}

func changed[T any](x T, change func(x *T)) T {
	change(&x)
	return x
}

func sameOp(a, b api.Op) bool {
	hashes := slices.Equal(a.Sheet.Hashes, b.Sheet.Hashes)
	a.Sheet.Hashes, b.Sheet.Hashes = nil, nil
	return hashes && a.N == b.N && a.Epoch == b.Epoch && a.Kind == b.Kind && a.Site == b.Site && a.Client == b.Client && a.Seq == b.Seq && a.Name == b.Name && a.Sheet.Size == b.Sheet.Size
}

func sameCommand(a, b api.Command) bool {
	return a.Kind == b.Kind && a.Epoch == b.Epoch && a.Site == b.Site && sameOp(a.Op, b.Op) && a.After == b.After && a.Since == b.Since && a.Tag == b.Tag && slices.EqualFunc(a.Ops, b.Ops, sameOp)
}

func rightOps() []api.Op {
	return []api.Op{reign(1, 1, 0), reign(80, 16, 1), put(1, 1, 0), put(80, 16, 1), drop(2, 3, 1), drop(80, 16, 0), changed(put(2, 1, 0), func(o *api.Op) { o.Sheet = api.Sheet{} }), changed(put(2, 1, 0), func(o *api.Op) { o.Sheet = sheetOf(strings.Repeat("x", 512)) }), changed(put(2, 1, 0), func(o *api.Op) { o.Client, o.Seq, o.Name = 0, 1, "\x00" })}
}

func wrongOps() []api.Op {
	var list []api.Op
	for _, o := range []api.Op{reign(1, 1, 0), put(1, 1, 0), drop(1, 1, 0)} {
		for _, change := range []func(o *api.Op){
			func(o *api.Op) { o.N = 0 }, func(o *api.Op) { o.N = 81 }, func(o *api.Op) { o.N = -1 },
			func(o *api.Op) { o.Epoch = 0 }, func(o *api.Op) { o.Epoch = 17 }, func(o *api.Op) { o.Epoch = -1 },
			func(o *api.Op) { o.Kind = 0 }, func(o *api.Op) { o.Kind = 4 }, func(o *api.Op) { o.Kind = -1 },
			func(o *api.Op) { o.Site = -1 }, func(o *api.Op) { o.Site = 2 },
			func(o *api.Op) { o.Client = -1 }, func(o *api.Op) { o.Client = 8 },
			func(o *api.Op) { o.Seq = -1 }, func(o *api.Op) { o.Seq = 1<<40 + 1 },
			func(o *api.Op) { o.Name = "seventeen bytes.." },
			func(o *api.Op) { o.Sheet = api.Sheet{Size: 1} },
			func(o *api.Op) { o.Sheet = api.Sheet{Hashes: []string{"x"}} },
			func(o *api.Op) { o.Sheet = api.Sheet{Size: 4, Hashes: []string{"x"}} },
			func(o *api.Op) { o.Sheet = api.Sheet{Size: -1} },
		} {
			list = append(list, changed(o, change))
		}
	}
	for _, o := range []api.Op{put(1, 1, 0), drop(1, 1, 0)} {
		list = append(list, changed(o, func(o *api.Op) { o.Seq = 0 }), changed(o, func(o *api.Op) { o.Name = "" }), changed(o, func(o *api.Op) { o.Kind = api.OpReign }))
	}
	list = append(list, changed(drop(1, 1, 0), func(o *api.Op) { o.Sheet = sheetOf("x") }))
	for _, change := range []func(o *api.Op){func(o *api.Op) { o.Client = 1 }, func(o *api.Op) { o.Seq = 1 }, func(o *api.Op) { o.Name = "a" }, func(o *api.Op) { o.Sheet = sheetOf("x") }, func(o *api.Op) { o.Kind = api.OpPut }, func(o *api.Op) { o.Kind = api.OpDrop }} {
		list = append(list, changed(reign(1, 1, 0), change))
	}
	return append(list, api.Op{})
}

// P11.1: which operations are right.
func TestP11_1CheckOp(t *testing.T) {
	for _, o := range rightOps() {
		if e := deed.CheckOp(o); e != api.OK {
			t.Errorf("%v: %d", o, e)
		}
	}
	for _, o := range wrongOps() {
		if e := deed.CheckOp(o); e != api.ErrForm {
			t.Errorf("%v: %d", o, e)
		}
	}
}

// P11.1: which ones may stand behind a place.
func TestP11_1Row(t *testing.T) {
	for i, x := range []struct {
		after api.Spot
		ops   []api.Op
		may   bool
	}{
		{api.Spot{}, nil, true},
		{api.Spot{N: 80, Epoch: 16}, nil, true},
		{api.Spot{N: 1, Epoch: 0}, nil, false},
		{api.Spot{N: 0, Epoch: 1}, nil, false},
		{api.Spot{N: 81, Epoch: 1}, nil, false},
		{api.Spot{N: 1, Epoch: 17}, nil, false},
		{api.Spot{N: -1, Epoch: 1}, nil, false},
		{api.Spot{N: 1, Epoch: -1}, nil, false},
		{api.Spot{N: -1, Epoch: -1}, nil, false},
		{api.Spot{}, []api.Op{put(1, 1, 0)}, false},
		{api.Spot{}, []api.Op{reign(1, 1, 0), put(2, 1, 0)}, true},
		{api.Spot{}, []api.Op{reign(1, 3, 0), drop(2, 3, 0), put(3, 3, 0), reign(4, 5, 0), reign(5, 6, 1), put(6, 6, 1)}, true},
		{api.Spot{}, []api.Op{reign(1, 1, 0), put(2, 1, 1)}, false},
		{api.Spot{}, []api.Op{reign(1, 1, 0), put(2, 2, 0)}, false},
		{api.Spot{}, []api.Op{reign(1, 2, 0), put(2, 1, 0)}, false},
		{api.Spot{}, []api.Op{reign(1, 1, 0), reign(2, 1, 0)}, false},
		{api.Spot{}, []api.Op{reign(1, 1, 0), reign(2, 1, 1)}, false},
		{api.Spot{}, []api.Op{reign(1, 2, 0), reign(2, 1, 1)}, false},
		{api.Spot{}, []api.Op{reign(1, 1, 0), put(3, 1, 0)}, false},
		{api.Spot{}, []api.Op{reign(1, 1, 0), put(1, 1, 0)}, false},
		{api.Spot{}, []api.Op{reign(2, 1, 0)}, false},
		{api.Spot{N: 4, Epoch: 2}, []api.Op{put(5, 2, 0), drop(6, 2, 0)}, true},
		{api.Spot{N: 4, Epoch: 2}, []api.Op{put(5, 2, 1), drop(6, 2, 0)}, false},
		{api.Spot{N: 4, Epoch: 2}, []api.Op{put(5, 3, 1)}, false},
		{api.Spot{N: 4, Epoch: 2}, []api.Op{put(5, 1, 1)}, false},
		{api.Spot{N: 4, Epoch: 2}, []api.Op{reign(5, 2, 1)}, false},
		{api.Spot{N: 4, Epoch: 2}, []api.Op{reign(5, 3, 1)}, true},
		{api.Spot{N: 4, Epoch: 2}, []api.Op{put(6, 2, 0)}, false},
		{api.Spot{N: 79, Epoch: 16}, []api.Op{put(80, 16, 0)}, true},
		{api.Spot{N: 80, Epoch: 16}, []api.Op{put(81, 16, 0)}, false},
		{api.Spot{N: 1, Epoch: 16}, []api.Op{reign(2, 17, 0)}, false},
		{api.Spot{N: 4, Epoch: 2}, []api.Op{changed(put(5, 2, 0), func(o *api.Op) { o.Seq = 0 })}, false},
		{api.Spot{N: 4, Epoch: 2}, []api.Op{put(5, 2, 0), changed(put(6, 2, 0), func(o *api.Op) { o.Sheet.Size = 0 })}, false},
	} {
		if may := deed.Row(x.after, x.ops...); may != x.may {
			t.Errorf("row %d behind %v: %v", i, x.after, may)
		}
	}
}

func bare(o api.Op) api.Op {
	o.N, o.Epoch, o.Site = 0, 0, 0
	return o
}

func rightCommands() []api.Command {
	eight := []api.Op{}
	for n := range 8 {
		eight = append(eight, put(n+5, 2, 1))
	}
	return []api.Command{
		{},
		{Kind: api.CmdDo, Epoch: 1, Op: bare(put(1, 1, 1))},
		{Kind: api.CmdDo, Epoch: 16, Site: 1, Op: bare(drop(1, 1, 1)), Tag: 1 << 40},
		{Kind: api.CmdLook},
		{Kind: api.CmdLook, Tag: 1 << 40},
		{Kind: api.CmdShip, Epoch: 1},
		{Kind: api.CmdShip, Epoch: 3, Site: 1, Ops: []api.Op{reign(1, 1, 0), put(2, 1, 0), reign(3, 3, 1)}},
		{Kind: api.CmdShip, Epoch: 2, Site: 1, After: 4, Since: 2, Ops: eight},
		{Kind: api.CmdShip, Epoch: 16, Site: 1, After: 80, Since: 16},
		{Kind: api.CmdReign, Epoch: 1},
		{Kind: api.CmdReign, Epoch: 16, Site: 1},
		{Kind: api.CmdMark, Epoch: 1, After: 1, Since: 1},
		{Kind: api.CmdMark, Epoch: 16, Site: 1, After: 80, Since: 16},
	}
}

// wrongCommands tells right ones with one thing changed that their kind does not allow.
func wrongCommands() []api.Command {
	do, look := api.Command{Kind: api.CmdDo, Epoch: 1, Op: bare(put(1, 1, 1))}, api.Command{Kind: api.CmdLook, Tag: 3}
	ship := api.Command{Kind: api.CmdShip, Epoch: 2, Site: 1, After: 4, Since: 2, Ops: []api.Op{put(5, 2, 1)}}
	reigns, mark := api.Command{Kind: api.CmdReign, Epoch: 1}, api.Command{Kind: api.CmdMark, Epoch: 2, After: 1, Since: 1}
	var list []api.Command
	add := func(c api.Command, changes ...func(c *api.Command)) {
		for _, change := range changes {
			list = append(list, changed(c, change))
		}
	}
	for _, c := range []api.Command{{}, look} { // these name no epoch and no site
		add(c, func(c *api.Command) { c.Epoch = 1 }, func(c *api.Command) { c.Site = 1 })
	}
	for _, c := range []api.Command{do, ship, reigns, mark} { // these do
		add(c, func(c *api.Command) { c.Epoch = 0 }, func(c *api.Command) { c.Epoch = 17 }, func(c *api.Command) { c.Epoch = -1 }, func(c *api.Command) { c.Site = 2 }, func(c *api.Command) { c.Site = -1 })
	}
	for _, c := range []api.Command{{}, do, look, reigns} {
		add(c, func(c *api.Command) { c.After = 1 }, func(c *api.Command) { c.Since = 1 }, func(c *api.Command) { c.After = -1 })
	}
	for _, c := range []api.Command{{}, do, look, reigns, mark} {
		add(c, func(c *api.Command) { c.Ops = []api.Op{reign(1, 1, 0)} }, func(c *api.Command) { c.Ops = []api.Op{{}} })
	}
	for _, c := range []api.Command{{}, ship, reigns, mark} {
		add(c, func(c *api.Command) { c.Tag = 1 }, func(c *api.Command) { c.Tag = -1 })
	}
	for _, c := range []api.Command{do, look} {
		add(c, func(c *api.Command) { c.Tag = -1 }, func(c *api.Command) { c.Tag = 1<<40 + 1 })
	}
	for _, c := range []api.Command{{}, look, ship, reigns, mark} {
		add(c, func(c *api.Command) { c.Op.N = 1 }, func(c *api.Command) { c.Op.Epoch = 1 }, func(c *api.Command) { c.Op.Kind = 1 }, func(c *api.Command) { c.Op.Site = 1 }, func(c *api.Command) { c.Op.Client = 1 }, func(c *api.Command) { c.Op.Seq = 1 }, func(c *api.Command) { c.Op.Name = "a" }, func(c *api.Command) { c.Op.Sheet.Size = 1 }, func(c *api.Command) { c.Op.Sheet.Hashes = []string{"x"} })
	}
	add(do, func(c *api.Command) { c.Op.N = 1 }, func(c *api.Command) { c.Op.Epoch = 1 }, func(c *api.Command) { c.Op.Site = 1 }, func(c *api.Command) { c.Op.Seq = 0 }, func(c *api.Command) { c.Op.Name = "" }, func(c *api.Command) { c.Op.Client = 8 }, func(c *api.Command) { c.Op = bare(reign(1, 1, 1)) }, func(c *api.Command) { c.Op = api.Op{} }, func(c *api.Command) { c.Op.Kind = api.OpDrop })
	add(ship, func(c *api.Command) { c.Ops = []api.Op{put(6, 2, 1)} }, func(c *api.Command) { c.Epoch = 1 }, func(c *api.Command) { c.Ops = []api.Op{reign(5, 3, 1)} }, func(c *api.Command) { c.Since = 0 }, func(c *api.Command) { c.After = 0 }, func(c *api.Command) { c.Ops = nil; c.Since = 3 }, func(c *api.Command) { c.Ops = nil; c.After = 81 }, func(c *api.Command) { c.Ops = nil; c.After, c.Since = -1, -1 })
	nine := changed(ship, func(c *api.Command) {
		for n := range 8 {
			c.Ops = append(slices.Clone(c.Ops), put(n+6, 2, 1))
		}
	})
	add(mark, func(c *api.Command) { c.After = 0 }, func(c *api.Command) { c.After = 81 }, func(c *api.Command) { c.After = -1 }, func(c *api.Command) { c.Since = 0 }, func(c *api.Command) { c.Since = 3 }, func(c *api.Command) { c.Since = -1 }, func(c *api.Command) { c.After, c.Since = 0, 0 })
	return append(list, nine, api.Command{Kind: 6}, api.Command{Kind: -1}, api.Command{Kind: 6, Epoch: 1})
}

// P11.1: which commands are right.
func TestP11_1Check(t *testing.T) {
	for i, c := range rightCommands() {
		if e := deed.Check(c); e != api.OK {
			t.Errorf("right %d, %v: %d", i, c, e)
		}
	}
	for i, c := range wrongCommands() {
		if e := deed.Check(c); e != api.ErrForm {
			t.Errorf("wrong %d, %v: %d", i, c, e)
		}
	}
}

func written(ops ...api.Op) string {
	s := pack.Nums(len(ops))
	for _, o := range ops {
		s += pack.Nums(o.N, o.Epoch, o.Kind, o.Site, o.Client, o.Seq) + pack.Text(o.Name) + pack.Text(sheet.Pack(o.Sheet))
	}
	return s
}

// P11.2: operations as bytes, right ones or not.
func TestP11_2PackOps(t *testing.T) {
	if s := deed.PackOps(); s != "\x00" {
		t.Errorf("%x", s)
	}
	if s := deed.PackOps(api.Op{}); s != "\x02\x00\x00\x00\x00\x00\x00\x00\x04\x00\x00" {
		t.Errorf("%x", s)
	}
	for _, list := range [][]api.Op{rightOps(), wrongOps()} {
		if deed.PackOps(list...) != written(list...) {
			t.Error("many")
		}
		for _, o := range list {
			if deed.PackOps(o) != written(o) {
				t.Errorf("%v", o)
			}
		}
	}
}

// P11.2: right operations of bytes.
func TestP11_2ParseOps(t *testing.T) {
	for _, list := range [][]api.Op{nil, rightOps(), {put(3, 3, 1)}, {put(3, 3, 1), put(3, 3, 1)}} {
		s := written(list...)
		if got, e := deed.ParseOps(s); e != api.OK || !slices.EqualFunc(got, list, sameOp) {
			t.Error(len(list), e)
		}
		for cut := range s {
			if got, e := deed.ParseOps(s[:cut]); e != api.ErrForm || got != nil {
				t.Error(len(list), cut, e)
			}
		}
		if got, e := deed.ParseOps(s + "\x00"); e != api.ErrForm || got != nil {
			t.Error(len(list), e)
		}
	}
	for _, o := range wrongOps() {
		for _, list := range [][]api.Op{{o}, {put(1, 1, 1), o}, {o, put(1, 1, 1)}} {
			if got, e := deed.ParseOps(written(list...)); e != api.ErrForm || got != nil {
				t.Errorf("%v: %d", o, e)
			}
		}
	}
	for _, s := range []string{"", "\x80\x00", "\x01", pack.Nums(1 << 62), "\x02\x02\x02\x06\x00\x00\x00\x00\x02\x00\x00", "\x02\x02\x02\x06\x00\x00\x00\x00\x06\x00\x00\x00"} {
		if got, e := deed.ParseOps(s); e != api.ErrForm || got != nil {
			t.Errorf("%x: %d", s, e)
		}
	}
}

// P11.3: commands as bytes, right ones or not.
func TestP11_3Pack(t *testing.T) {
	if s := deed.Pack(api.Command{}); s != "\x00\x00\x00\x00\x00\x00"+"\x02\x00\x00\x00\x00\x00\x00\x00\x04\x00\x00"+"\x00" {
		t.Errorf("%x", s)
	}
	for _, c := range append(rightCommands(), wrongCommands()...) {
		want := pack.Nums(c.Kind, c.Epoch, c.Site, c.After, c.Since, c.Tag) + written(c.Op) + written(c.Ops...)
		if s := deed.Pack(c); s != want {
			t.Errorf("%v: %x", c, s)
		}
	}
}

// P11.3: right commands of bytes.
func TestP11_3Parse(t *testing.T) {
	for _, c := range rightCommands() {
		s := deed.Pack(c)
		if got, e := deed.Parse(s); e != api.OK || !sameCommand(got, c) {
			t.Errorf("%v: %d", c, e)
		}
		for cut := range s {
			if got, e := deed.Parse(s[:cut]); e != api.ErrForm || !sameCommand(got, api.Command{}) {
				t.Errorf("%v, %d: %d", c, cut, e)
			}
		}
		if got, e := deed.Parse(s + "\x00"); e != api.ErrForm || !sameCommand(got, api.Command{}) {
			t.Errorf("%v: %d", c, e)
		}
	}
	for _, c := range wrongCommands() {
		if got, e := deed.Parse(deed.Pack(c)); e != api.ErrForm || !sameCommand(got, api.Command{}) {
			t.Errorf("%v: %d", c, e)
		}
	}
	nums := "\x00\x00\x00\x00\x00\x00"
	for _, s := range []string{"", nums + "\x00\x00", nums + written(api.Op{}, api.Op{}) + "\x00", nums + written(), nums + "\x02\x00\x00\x00\x00\x00\x00\x00\x06\x00\x00\x00" + "\x00"} {
		if got, e := deed.Parse(s); e != api.ErrForm || !sameCommand(got, api.Command{}) {
			t.Errorf("%x: %d", s, e)
		}
	}
}

// P11.4: bytes are written in one way: a byte changed is another command, or none.
func TestP11_4OneWay(t *testing.T) {
	for _, c := range rightCommands() {
		s := deed.Pack(c)
		for i := range len(s) {
			for _, turn := range []byte{1, 2, 4, 64, 128, 255} {
				b := []byte(s)
				b[i] ^= turn
				if got, e := deed.Parse(string(b)); e == api.OK && deed.Pack(got) != string(b) {
					t.Errorf("%x is read as %v", b, got)
				}
			}
		}
	}
	s := written(rightOps()...)
	for i := range len(s) {
		b := []byte(s)
		b[i] ^= 2
		if got, e := deed.ParseOps(string(b)); e == api.OK && deed.PackOps(got...) != string(b) {
			t.Errorf("%x is read as %v", b, got)
		}
	}
}

// Rule 5: what is answered is new memory.
func TestRule5Memory(t *testing.T) {
	c := api.Command{Kind: api.CmdShip, Epoch: 2, After: 4, Since: 2, Ops: []api.Op{put(5, 2, 1)}}
	s := deed.Pack(c)
	got, _ := deed.Parse(s)
	got.Ops[0].Sheet.Hashes[0] = "changed"
	again, _ := deed.Parse(s)
	if !sameCommand(again, c) || deed.Pack(c) != s {
		t.Error("something changed")
	}
}
