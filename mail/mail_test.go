package mail_test

import (
	"slices"
	"strings"
	"testing"

	"redoubt/api"
	"redoubt/deed"
	"redoubt/frame"
	"redoubt/mail"
	"redoubt/pack"
	"redoubt/sheet"
)

const top = 1 << 40

func hash(c string) string { return strings.Repeat(c, 32) }

func reign(n, epoch, site int) api.Op {
	return api.Op{N: n, Epoch: epoch, Kind: api.OpReign, Site: site}
}

func put(n, epoch, site int) api.Op {
	s, _ := sheet.Make("data")
	return api.Op{N: n, Epoch: epoch, Kind: api.OpPut, Site: site, Client: 2, Seq: 5, Name: "a", Sheet: s}
}

func puts(n int) (list []api.Op) {
	for i := range n {
		list = append(list, put(5+i, 2, 1))
	}
	return list
}

func entries(n int) (list []api.Entry) {
	for i := range n {
		list = append(list, api.Entry{Term: i + 1, Data: "x"})
	}
	return list
}

func same(a, b api.Mail) bool {
	return a.Kind == b.Kind && a.Term == b.Term && a.Index == b.Index && a.Prev == b.Prev && a.Commit == b.Commit && a.Good == b.Good && slices.Equal(a.Entries, b.Entries) && a.Data == b.Data && slices.Equal(a.Hashes, b.Hashes) && a.Epoch == b.Epoch && a.Site == b.Site && a.At == b.At && a.Whole == b.Whole && slices.Equal(a.Holes, b.Holes) && deed.PackOps(a.Ops...) == deed.PackOps(b.Ops...)
}

func right() []api.Mail {
	return []api.Mail{
		{Kind: api.MailAsk, Term: 1},
		{Kind: api.MailAsk, Term: top, Index: top, Prev: top},
		{Kind: api.MailVote, Term: 3, Good: true},
		{Kind: api.MailVote, Term: top},
		{Kind: api.MailFeed, Term: 1},
		{Kind: api.MailFeed, Term: top, Index: top, Prev: top, Commit: top, Entries: entries(8)},
		{Kind: api.MailFeed, Term: 2, Entries: []api.Entry{{Term: top, Data: strings.Repeat("x", 8000)}, {Term: 1}}},
		{Kind: api.MailFed, Term: 1, Good: true, Index: top},
		{Kind: api.MailFed, Term: top},
		{Kind: api.MailLay, Term: 1},
		{Kind: api.MailLay, Term: top, Index: top, Prev: top, Data: strings.Repeat("x", 100000)},
		{Kind: api.MailWhole},
		{Kind: api.MailWhole, At: api.Spot{N: 80, Epoch: 16}, Holes: []int{1, 2, 79, 80}},
		{Kind: api.MailWhole, At: api.Spot{N: 1, Epoch: 1}, Holes: []int{1}},
		{Kind: api.MailWant, Hashes: []string{hash("a")}},
		{Kind: api.MailWant, Hashes: []string{hash("b"), hash("a"), hash("b"), hash("\x00")}},
		{Kind: api.MailBlob, Data: "x"},
		{Kind: api.MailBlob, Data: strings.Repeat("\x00", 64)},
		{Kind: api.MailShip, Epoch: 1},
		{Kind: api.MailShip, Epoch: 2, Site: 1, Ops: []api.Op{reign(1, 1, 0), put(2, 1, 0), reign(3, 2, 1)}},
		{Kind: api.MailShip, Epoch: 16, Site: 1, At: api.Spot{N: 80, Epoch: 16}},
		{Kind: api.MailShip, Epoch: 2, At: api.Spot{N: 4, Epoch: 2}, Ops: puts(8)},
		{Kind: api.MailShipped, Epoch: 1},
		{Kind: api.MailShipped, Epoch: 16, Good: true, At: api.Spot{N: 80, Epoch: 1}, Whole: api.Spot{N: 2, Epoch: 16}, Holes: []int{1, 2}},
		{Kind: api.MailClaim},
		{Kind: api.MailClaim, Site: 1},
		{Kind: api.MailClaim, Epoch: 16, Site: 1},
		{Kind: api.MailGrant},
		{Kind: api.MailGrant, Epoch: 16, Site: 1},
		{Kind: api.MailGrant, Epoch: 1},
	}
}

// field is one that a mail may have, with values that aren't zero; those in wrong may not be even where it is named.
type field struct {
	name  string
	set   func(m *api.Mail)
	named []int
	wrong []func(m *api.Mail)
}

func fields() []field {
	all := []int{api.MailAsk, api.MailVote, api.MailFeed, api.MailFed, api.MailLay}
	type sets = []func(m *api.Mail)
	return []field{
		{"Term", func(m *api.Mail) { m.Term = 1 }, all, sets{func(m *api.Mail) { m.Term = 0 }, func(m *api.Mail) { m.Term = -1 }, func(m *api.Mail) { m.Term = top + 1 }}},
		{"Index", func(m *api.Mail) { m.Index = 1 }, []int{api.MailAsk, api.MailFeed, api.MailFed, api.MailLay}, sets{func(m *api.Mail) { m.Index = -1 }, func(m *api.Mail) { m.Index = top + 1 }}},
		{"Prev", func(m *api.Mail) { m.Prev = 1 }, []int{api.MailAsk, api.MailFeed, api.MailLay}, sets{func(m *api.Mail) { m.Prev = -1 }, func(m *api.Mail) { m.Prev = top + 1 }}},
		{"Commit", func(m *api.Mail) { m.Commit = 1 }, []int{api.MailFeed}, sets{func(m *api.Mail) { m.Commit = -1 }, func(m *api.Mail) { m.Commit = top + 1 }}},
		{"Good", func(m *api.Mail) { m.Good = true }, []int{api.MailVote, api.MailFed, api.MailShipped}, nil},
		{"Entries", func(m *api.Mail) { m.Entries = entries(1) }, []int{api.MailFeed}, sets{func(m *api.Mail) { m.Entries = entries(9) }, func(m *api.Mail) { m.Entries = []api.Entry{{Term: 0}} }, func(m *api.Mail) { m.Entries = []api.Entry{{Term: 1}, {Term: top + 1}} }, func(m *api.Mail) { m.Entries = []api.Entry{{Term: 1, Data: strings.Repeat("x", 8001)}} }}},
		{"Data", func(m *api.Mail) { m.Data = "x" }, []int{api.MailLay, api.MailBlob}, sets{func(m *api.Mail) { m.Data = strings.Repeat("x", 100001) }}},
		{"Hashes", func(m *api.Mail) { m.Hashes = []string{hash("a")} }, []int{api.MailWant}, sets{func(m *api.Mail) { m.Hashes = []string{""} }, func(m *api.Mail) { m.Hashes = []string{hash("a"), hash("a")[1:]} }, func(m *api.Mail) { m.Hashes = []string{hash("a") + "a"} }, func(m *api.Mail) { m.Hashes = []string{hash("a"), hash("a"), hash("a"), hash("a"), hash("a")} }, func(m *api.Mail) { m.Hashes = nil }}},
		{"Epoch", func(m *api.Mail) { m.Epoch = 16 }, []int{api.MailShip, api.MailShipped, api.MailClaim, api.MailGrant}, sets{func(m *api.Mail) { m.Epoch = -1 }, func(m *api.Mail) { m.Epoch = 17 }}},
		{"Site", func(m *api.Mail) { m.Site = 1; m.Epoch = max(m.Epoch, 1) }, []int{api.MailShip, api.MailClaim, api.MailGrant}, sets{func(m *api.Mail) { m.Site = -1 }, func(m *api.Mail) { m.Site = 2 }}},
		{"At", func(m *api.Mail) { m.At = api.Spot{N: 80, Epoch: 1} }, []int{api.MailWhole, api.MailShip, api.MailShipped}, sets{func(m *api.Mail) { m.At = api.Spot{N: 1} }, func(m *api.Mail) { m.At = api.Spot{Epoch: 1} }, func(m *api.Mail) { m.At = api.Spot{N: 81, Epoch: 1} }, func(m *api.Mail) { m.At = api.Spot{N: 1, Epoch: 17} }, func(m *api.Mail) { m.At = api.Spot{N: -1, Epoch: 1} }, func(m *api.Mail) { m.At = api.Spot{N: 1, Epoch: -1} }}},
		{"Whole", func(m *api.Mail) { m.Whole = api.Spot{N: 80, Epoch: 1} }, []int{api.MailShipped}, sets{func(m *api.Mail) { m.Whole = api.Spot{N: 1} }, func(m *api.Mail) { m.Whole = api.Spot{Epoch: 1} }, func(m *api.Mail) { m.Whole = api.Spot{N: 81, Epoch: 1} }, func(m *api.Mail) { m.Whole = api.Spot{N: 1, Epoch: 17} }}},
		{"Holes", func(m *api.Mail) { m.Holes = []int{1}; m.At = api.Spot{N: 2, Epoch: 1}; m.Whole = m.At }, nil, sets{func(m *api.Mail) { m.Holes = []int{0} }, func(m *api.Mail) { m.Holes = []int{81} }, func(m *api.Mail) { m.Holes = []int{1, 1} }, func(m *api.Mail) { m.Holes = []int{2, 1} }, func(m *api.Mail) { m.Holes = []int{-1} }}},
		{"Ops", func(m *api.Mail) { m.Ops = []api.Op{reign(1, 1, 0)} }, []int{api.MailShip}, nil},
	}
}

// least answers the least right mail of a kind.
func least(kind int) api.Mail {
	for _, m := range right() {
		if m.Kind == kind {
			return m
		}
	}
	return api.Mail{}
}

// P15.1: which mails are right.
func TestP15_1Right(t *testing.T) {
	for i, m := range right() {
		if e := mail.Check(m); e != api.OK {
			t.Error(i, m.Kind, e)
		}
	}
	for _, kind := range []int{0, -1, 13, 1 << 40, -1 << 63} {
		for _, m := range []api.Mail{{Kind: kind}, {Kind: kind, Term: 1}, {Kind: kind, Epoch: 1}} {
			if e := mail.Check(m); e != api.ErrForm {
				t.Error(kind, e)
			}
		}
	}
}

// P15.1: of each kind what isn't named is zero, and what is named is as said.
func TestP15_1Named(t *testing.T) {
	for kind := api.MailAsk; kind <= api.MailGrant; kind++ {
		for _, f := range fields() {
			if f.name != "Holes" {
				m := least(kind)
				f.set(&m)
				named := slices.Contains(f.named, kind)
				if e := mail.Check(m); (e == api.OK) != named || e != api.OK && e != api.ErrForm {
					t.Errorf("kind %d with %s: %d", kind, f.name, e)
				}
			}
			for i, wrong := range f.wrong {
				m := least(kind)
				if slices.Contains(f.named, kind) || f.name == "Holes" && (kind == api.MailWhole || kind == api.MailShipped) {
					wrong(&m)
					if e := mail.Check(m); e != api.ErrForm {
						t.Errorf("kind %d with wrong %s %d: %d", kind, f.name, i, e)
					}
				}
			}
		}
	}
	for _, kind := range []int{api.MailAsk, api.MailVote, api.MailFeed, api.MailFed, api.MailLay, api.MailWant, api.MailBlob, api.MailShip, api.MailClaim, api.MailGrant} {
		m := least(kind)
		m.Holes = []int{1}
		if e := mail.Check(m); e != api.ErrForm {
			t.Errorf("kind %d with Holes: %d", kind, e)
		}
	}
}

// P15.1: what the table says of single kinds.
func TestP15_1Kinds(t *testing.T) {
	at := api.Spot{N: 4, Epoch: 2}
	for i, m := range []api.Mail{
		{Kind: api.MailVote, Term: 3, Index: 1},
		{Kind: api.MailWhole, At: at, Holes: []int{5}},
		{Kind: api.MailWhole, Holes: []int{1}},
		{Kind: api.MailWhole, At: at, Holes: []int{2, 1}},
		{Kind: api.MailWhole, At: at, Holes: []int{1, 3, 3}},
		{Kind: api.MailWhole, At: at, Holes: []int{0, 1}},
		{Kind: api.MailShipped, Epoch: 1, Whole: at, Holes: []int{4, 1}},
		{Kind: api.MailShipped, Epoch: 1, Whole: at, Holes: []int{2, 2}},
		{Kind: api.MailShipped, Epoch: 1, At: at, Holes: []int{1}},
		{Kind: api.MailShipped, Epoch: 1, Whole: at, Holes: []int{4, 5}},
		{Kind: api.MailShipped, Good: true},
		{Kind: api.MailBlob},
		{Kind: api.MailBlob, Data: strings.Repeat("x", 65)},
		{Kind: api.MailWant},
		{Kind: api.MailShip},
		{Kind: api.MailShip, Epoch: 1, At: at},
		{Kind: api.MailShip, Epoch: 1, Ops: []api.Op{reign(1, 2, 0)}},
		{Kind: api.MailShip, Epoch: 2, Ops: []api.Op{put(1, 1, 0)}},
		{Kind: api.MailShip, Epoch: 2, At: at, Ops: []api.Op{put(6, 2, 1)}},
		{Kind: api.MailShip, Epoch: 2, At: at, Ops: puts(9)},
		{Kind: api.MailShip, Epoch: 2, At: at, Ops: []api.Op{{}}},
		{Kind: api.MailShipped, Epoch: 0},
		{Kind: api.MailGrant, Site: 1},
	} {
		if e := mail.Check(m); e != api.ErrForm {
			t.Error(i, m.Kind, e)
		}
		if s, e := mail.Pack(m); s != "" || e != api.ErrForm {
			t.Error("Pack", i, m.Kind, e)
		}
	}
}

// written tells a mail's bytes by the words of the chapter.
func written(m api.Mail) string {
	good := 0
	if m.Good {
		good = 1
	}
	s := pack.Nums(m.Kind, m.Term, m.Index, m.Prev, m.Commit, good, m.Epoch, m.Site, m.At.N, m.At.Epoch, m.Whole.N, m.Whole.Epoch) + pack.Text(m.Data)
	s += pack.Nums(len(m.Hashes)) + pack.Text(m.Hashes...) + pack.Nums(len(m.Holes)) + pack.Nums(m.Holes...) + pack.Nums(len(m.Entries))
	for _, e := range m.Entries {
		s += pack.Nums(e.Term) + pack.Text(e.Data)
	}
	return s + deed.PackOps(m.Ops...)
}

func sealed(s string) string {
	f, _ := frame.Seal(s)
	return f
}

// P15.1: mails as bytes.
func TestP15_1Pack(t *testing.T) {
	s, e := mail.Pack(api.Mail{Kind: api.MailVote, Term: 3, Good: true})
	if e != api.OK || s != sealed("\x04\x06\x00\x00\x00\x02\x00\x00\x00\x00\x00\x00\x00\x00\x00\x00\x00") {
		t.Errorf("%x, %d", s, e)
	}
	for i, m := range right() {
		if s, e := mail.Pack(m); e != api.OK || s != sealed(written(m)) {
			t.Error(i, e)
		}
	}
}

// P15.2: right mails of bytes.
func TestP15_2Parse(t *testing.T) {
	for i, m := range right() {
		s, _ := mail.Pack(m)
		if got, e := mail.Parse(s); e != api.OK || !same(got, m) {
			t.Errorf("%d: %+v, %d", i, got, e)
		}
	}
}

// P15.2: bytes that are no right mail's.
func TestP15_2None(t *testing.T) {
	for kind := range 15 {
		for _, f := range fields() {
			for _, change := range append(slices.Clone(f.wrong), f.set) {
				m := least(kind)
				m.Kind = kind
				change(&m)
				if mail.Check(m) == api.OK {
					continue
				}
				if got, e := mail.Parse(sealed(written(m))); e != api.ErrForm || !same(got, api.Mail{}) {
					t.Errorf("kind %d with %s: %d", kind, f.name, e)
				}
			}
		}
	}
	vote := written(api.Mail{Kind: api.MailVote, Term: 3, Good: true})
	for _, s := range []string{"", "\x00", vote, sealed(""), sealed(vote + "\x00"), sealed(vote[:len(vote)-1]), sealed(vote) + "\x00", sealed(vote) + sealed(vote), sealed(strings.Replace(vote, "\x02", "\x04", 1)), sealed(strings.Replace(vote, "\x02", "\x01", 1)), sealed(vote[:13] + "\x02" + vote[14:]), sealed(vote[:14] + "\x02" + vote[15:])} {
		if got, e := mail.Parse(s); e != api.ErrForm || !same(got, api.Mail{}) {
			t.Errorf("%x: %d", s, e)
		}
	}
}

// P15.3: bytes that are cut off, or have more behind them, or of which a bit turned behind the length, are no mail.
func TestP15_3Turned(t *testing.T) {
	for i, m := range right() {
		s, _ := mail.Pack(m)
		if len(s) > 5000 {
			continue
		}
		head := len(pack.Nums(len(written(m))))
		for cut := range s {
			if got, e := mail.Parse(s[:cut]); e != api.ErrForm || !same(got, api.Mail{}) {
				t.Error(i, "cut", cut, e)
			}
		}
		for bit := 8 * head; bit < 8*len(s); bit++ {
			b := []byte(s)
			b[bit/8] ^= 1 << (bit % 8)
			if got, e := mail.Parse(string(b)); e != api.ErrForm || !same(got, api.Mail{}) {
				t.Error(i, "bit", bit, e)
			}
		}
		for _, behind := range []string{"\x00", "x", s} {
			if got, e := mail.Parse(s + behind); e != api.ErrForm || !same(got, api.Mail{}) {
				t.Error(i, "behind", e)
			}
		}
	}
}

// Rule 5: what is handed in stays as it is, and what is answered is new memory.
func TestRule5Memory(t *testing.T) {
	for _, m := range right() {
		s, _ := mail.Pack(m)
		got, _ := mail.Parse(s)
		for i := range got.Hashes {
			got.Hashes[i] = "changed"
		}
		for i := range got.Holes {
			got.Holes[i] = 99
		}
		for i := range got.Ops {
			got.Ops[i].Name = "changed"
		}
		if again, _ := mail.Parse(s); !same(again, m) {
			t.Error(m.Kind)
		}
	}
}
