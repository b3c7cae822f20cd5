package script_test

import (
	"math/rand"
	"slices"
	"strings"
	"testing"

	"redoubt/api"
	"redoubt/script"
	"redoubt/world"
)

var conf = api.Conf{Quota: 4000, Ops: 64, Epochs: 3, Rate: 100, Burst: 1000, Base: 2, Spread: 3, Snap: 20}

func same(a, b api.Act) bool {
	return a.Kind == b.Kind && a.Node == b.Node && a.K == b.K && a.Draw == b.Draw && slices.Equal(a.Keeps, b.Keeps) && a.Ask == b.Ask
}

func reads(t *testing.T, s string, want ...api.Act) {
	t.Helper()
	if got := script.Read(s); !slices.EqualFunc(got, want, same) {
		t.Errorf("%.40x: %+v, not %+v", s, got, want)
	}
}

func ticks() (list []api.Act) {
	for id := range 6 {
		list = append(list, api.Act{Kind: api.ActTick, Node: id, Draw: id})
	}
	return list
}

func runs(n int) (list []api.Act) {
	for range n {
		list = append(list, api.Act{Kind: api.ActDeliver})
	}
	return list
}

// someActs tells acts of all kinds with the bytes that they are.
func someActs() map[string]api.Act {
	long := strings.Repeat("d", 1023)
	return map[string]api.Act{
		"\x01\x00\x00\x00\x00\x00\x00\x00\x00\x00":                            {Kind: api.ActAsk},
		"\x01\x05\x01\x02\x03\x04\x06\x02ab\x03\x00xyz":                       {Kind: api.ActAsk, Node: 5, Ask: api.Ask{Kind: 1, Client: 2, Seq: 3, Mode: 4, Lag: 6, Name: "ab", Data: "xyz"}},
		"\x01\xff\xff\xff\xff\xff\xff\x1f" + long[:31] + "\xff\x03" + long:    {Kind: api.ActAsk, Node: 255, Ask: api.Ask{Kind: 255, Client: 255, Seq: 255, Mode: 255, Lag: 255, Name: long[:31], Data: long}},
		"\x01\x00\x01\x00\x01\x00\x00\x00\x00\x01" + strings.Repeat("d", 256): {Kind: api.ActAsk, Ask: api.Ask{Kind: 1, Seq: 1, Data: strings.Repeat("d", 256)}},
		"\x02\x00":                 {Kind: api.ActDeliver},
		"\x02\xff":                 {Kind: api.ActDeliver, K: 255},
		"\x03\x09":                 {Kind: api.ActDrop, K: 9},
		"\x04\x07":                 {Kind: api.ActTwin, K: 7},
		"\x05\x03\x07":             {Kind: api.ActTick, Node: 3, Draw: 7},
		"\x06\x02\x00":             {Kind: api.ActCrash, Node: 2},
		"\x06\x02\x03\x01\x00\xff": {Kind: api.ActCrash, Node: 2, Keeps: []int{1, 0, 255}},
		"\x07\x06\x07\x01\x02\x03\x04\x05\x06\x07": {Kind: api.ActStart, Node: 6, Keeps: []int{1, 2, 3, 4, 5, 6, 7}},
		"\x08\x01\x10":         {Kind: api.ActFuse, Node: 1, K: 16},
		"\x09\x01":             {Kind: api.ActLose, K: 1},
		"\x0a\x04\x05\x34\x12": {Kind: api.ActFlip, Node: 4, K: 5, Draw: 0x1234},
		"\x0a\x04\x05\xff\xff": {Kind: api.ActFlip, Node: 4, K: 5, Draw: 65535},
	}
}

// P25.1: each row.
func TestP25_1Rows(t *testing.T) {
	for s, a := range someActs() {
		reads(t, s, a)
		reads(t, s+s, a, a)
		for _, more := range []byte{16, 32, 240} { // a kind is the byte modulo 16
			reads(t, string([]byte{s[0] + more})+s[1:], a)
		}
	}
	reads(t, "")
	reads(t, "\x00\x0d\x0e\x0f\x10\xff")
	reads(t, "\x0b", ticks()...)
	reads(t, "\x0b\x1b", append(ticks(), ticks()...)...)
	reads(t, "\x0c\x03", runs(3)...)
	reads(t, "\x0c\xff", runs(255)...)
	reads(t, "\x0c\x00\x02\x05", api.Act{Kind: api.ActDeliver, K: 5})
	reads(t, "\x00\x09\x01\x0f\x09\x00", api.Act{Kind: api.ActLose, K: 1}, api.Act{Kind: api.ActLose})
}

// P25.1: how many bytes follow is a number modulo 32, 1024, 8.
func TestP25_1Modulo(t *testing.T) {
	reads(t, "\x01\x00\x01\x00\x01\x00\x00\x22ab\x02\x04xy", api.Act{Kind: api.ActAsk, Ask: api.Ask{Kind: 1, Seq: 1, Name: "ab", Data: "xy"}})
	reads(t, "\x01\x00\x01\x00\x01\x00\x00\x20\x00\xfc\x0b", append([]api.Act{{Kind: api.ActAsk, Ask: api.Ask{Kind: 1, Seq: 1}}}, ticks()...)...)
	reads(t, "\x06\x01\x0a\x05\x06", api.Act{Kind: api.ActCrash, Node: 1, Keeps: []int{5, 6}})
	reads(t, "\x07\x01\xf8\x02\x01", api.Act{Kind: api.ActStart, Node: 1}, api.Act{Kind: api.ActDeliver, K: 1})
}

// P25.1: where the bytes end, the act is none, and all is read.
func TestP25_1Ends(t *testing.T) {
	reads(t, "\x02\x00\x09", api.Act{Kind: api.ActDeliver})
	for s := range someActs() {
		for cut := 1; cut < len(s); cut++ {
			reads(t, s[:cut])
			reads(t, "\x09\x01"+s[:cut], api.Act{Kind: api.ActLose, K: 1})
		}
	}
	reads(t, "\x0c")
}

// P25.1: at most 2^14 bytes count, and at most 4000 acts are read.
func TestP25_1Most(t *testing.T) {
	lose := api.Act{Kind: api.ActLose, K: 1}
	reads(t, strings.Repeat("\x00", 1<<14-2)+"\x09\x01", lose)
	reads(t, strings.Repeat("\x00", 1<<14-1)+"\x09\x01")
	reads(t, strings.Repeat("\x00", 1<<14)+"\x09\x01")
	if n := len(script.Read(strings.Repeat("\x09\x01", 3999))); n != 3999 {
		t.Error(n)
	}
	if n := len(script.Read(strings.Repeat("\x09\x01", 4001))); n != 4000 {
		t.Error(n)
	}
	list := script.Read(strings.Repeat("\x0b", 700))
	if len(list) != 4000 || !same(list[3999], api.Act{Kind: api.ActTick, Node: 3, Draw: 3}) {
		t.Error(len(list))
	}
	if n := len(script.Read(strings.Repeat("\x0c\xff", 20))); n != 4000 {
		t.Error(n)
	}
}

// P25.2: acts as bytes.
func TestP25_2Print(t *testing.T) {
	if s, e := script.Print(); s != "" || e != api.OK {
		t.Error(e)
	}
	var all []api.Act
	want := ""
	for s, a := range someActs() {
		got, e := script.Print(a)
		if got != s || e != api.OK {
			t.Errorf("%+v: %x, %d", a, got, e)
		}
		all, want = append(all, a), want+s
	}
	if got, e := script.Print(all...); got != want || e != api.OK {
		t.Error("many", e)
	}
}

// P25.2: acts that can't be written.
func TestP25_2Arg(t *testing.T) {
	var bad []api.Act
	for _, kind := range []int{0, -1, 11, 12, 16, 17, 256 + 9} {
		bad = append(bad, api.Act{Kind: kind})
	}
	sets := []func(a *api.Act, n int){func(a *api.Act, n int) { a.Node = n }, func(a *api.Act, n int) { a.K = n }, func(a *api.Act, n int) { a.Draw = n }, func(a *api.Act, n int) { a.Keeps = []int{n} }, func(a *api.Act, n int) { a.Ask.Kind = n }, func(a *api.Act, n int) { a.Ask.Client = n }, func(a *api.Act, n int) { a.Ask.Seq = n }, func(a *api.Act, n int) { a.Ask.Mode = n }, func(a *api.Act, n int) { a.Ask.Lag = n }}
	named := map[int][]int{api.ActAsk: {0, 4, 5, 6, 7, 8}, api.ActDeliver: {1}, api.ActDrop: {1}, api.ActTwin: {1}, api.ActTick: {0, 2}, api.ActCrash: {0, 3}, api.ActStart: {0, 3}, api.ActFuse: {0, 1}, api.ActLose: {1}, api.ActFlip: {0, 1, 2}}
	for kind := api.ActAsk; kind <= api.ActFlip; kind++ {
		for i, set := range sets {
			most := 255
			if kind == api.ActFlip && i == 2 {
				most = 65535
			}
			for _, n := range []int{-1, 1, most, most + 1, 1 << 40} {
				a := api.Act{Kind: kind}
				set(&a, n)
				_, e := script.Print(a)
				if may := slices.Contains(named[kind], i) && n >= 0 && n <= most; may != (e == api.OK) {
					t.Errorf("%+v: %d", a, e)
				} else if !may {
					bad = append(bad, a)
				}
			}
		}
		if kind != api.ActAsk {
			bad = append(bad, api.Act{Kind: kind, Ask: api.Ask{Name: "a"}}, api.Act{Kind: kind, Ask: api.Ask{Data: "a"}})
		}
	}
	long := strings.Repeat("x", 1024)
	bad = append(bad, api.Act{Kind: api.ActAsk, Ask: api.Ask{Name: long[:32]}}, api.Act{Kind: api.ActAsk, Ask: api.Ask{Data: long}}, api.Act{Kind: api.ActCrash, Keeps: make([]int, 8)}, api.Act{Kind: api.ActStart, Keeps: make([]int, 8)})
	for _, a := range bad {
		for _, acts := range [][]api.Act{{a}, {{Kind: api.ActDeliver}, a}, {a, {Kind: api.ActDeliver}}} {
			if s, e := script.Print(acts...); s != "" || e != api.ErrArg {
				t.Errorf("%+v: %x, %d", a, s, e)
			}
		}
	}
	if s, e := script.Print(make([]api.Act, 4001)...); s != "" || e != api.ErrArg {
		t.Error(e)
	}
	if _, e := script.Print(runs(4000)...); e != api.OK {
		t.Error(e)
	}
	if s, e := script.Print(runs(4001)...); s != "" || e != api.ErrArg {
		t.Error(e)
	}
}

// P25.2: no more bytes than a script may have.
func TestP25_2Long(t *testing.T) {
	data := strings.Repeat("d", 1014) // 1024 bytes with what stands ahead
	sixteen := make([]api.Act, 16)
	for i := range sixteen {
		sixteen[i] = api.Act{Kind: api.ActAsk, Ask: api.Ask{Data: data}}
	}
	if s, e := script.Print(sixteen...); len(s) != 1<<14 || e != api.OK {
		t.Error(len(s), e)
	}
	sixteen[3].Ask.Name = "x"
	if s, e := script.Print(sixteen...); s != "" || e != api.ErrLong {
		t.Error(len(s), e)
	}
	sixteen[15].Node = 256
	if s, e := script.Print(sixteen...); s != "" || e != api.ErrArg {
		t.Error("ErrArg stands ahead", len(s), e)
	}
}

// P25.3: a world behind all acts, whatever each one answers.
func TestP25_3Play(t *testing.T) {
	if w, e := script.Play(api.Conf{}, "\x0b"); w != nil || e != api.ErrArg {
		t.Error(e)
	}
	s := strings.Repeat("\x0b\x0c\x40", 5) + "\x02\xff" + "\x01\x00\x05\x00\x00\x00\x00\x00\x00\x00" + "\x09\x07" + strings.Repeat("\x0b\x0c\x40", 5)
	w, e := script.Play(conf, s)
	if e != api.OK {
		t.Fatal(e)
	}
	other, _ := world.New(conf)
	for _, a := range script.Read(s) {
		other.Do(a)
	}
	if w.Grant() != other.Grant() || w.Grant() != (api.Grant{Epoch: 1}) || w.Mails() != other.Mails() || len(w.Replies()) != 1 || w.Replies()[0].Err != api.OK {
		t.Error(w.Grant(), w.Mails(), w.Replies())
	}
	for id := range 6 {
		if w.Ledger(id).Pack() != other.Ledger(id).Pack() {
			t.Error(id)
		}
	}
}

// P25.3, DOC.md's tenth example: the same bytes once more, the same replies.
func TestP25_3Again(t *testing.T) {
	rnd := rand.New(rand.NewSource(3))
	for range 20 {
		b := make([]byte, 3000)
		rnd.Read(b)
		v, _ := script.Play(conf, string(b))
		w, _ := script.Play(conf, string(b))
		equal := func(x, y api.Reply) bool {
			return x.Ask == y.Ask && x.Err == y.Err && x.At == y.At && x.Data == y.Data && slices.Equal(x.Names, y.Names) && len(x.Lost) == len(y.Lost)
		}
		if !slices.EqualFunc(v.Replies(), w.Replies(), equal) || v.Mails() != w.Mails() {
			t.Error("other replies")
		}
	}
}

// P25.4: what was printed is read; of bytes that are cut off the acts are the first ones.
func TestP25_4ThereAndBack(t *testing.T) {
	var all []api.Act
	for _, a := range someActs() {
		all = append(all, a)
	}
	s, e := script.Print(all...)
	if e != api.OK {
		t.Fatal(e)
	}
	reads(t, s, all...)
	rnd := rand.New(rand.NewSource(1))
	for range 300 {
		b := make([]byte, rnd.Intn(400))
		rnd.Read(b)
		acts := script.Read(string(b))
		cut := rnd.Intn(len(b) + 1)
		first := script.Read(string(b[:cut]))
		if len(first) > len(acts) || !slices.EqualFunc(first, acts[:len(first)], same) {
			t.Fatalf("cut off at %d: %x", cut, b)
		}
		if s, e := script.Print(acts...); e == api.OK {
			reads(t, s, acts...)
		}
	}
}
