package wal_test

import (
	"math/rand"
	"slices"
	"strconv"
	"strings"
	"testing"

	"redoubt/api"
	"redoubt/disk"
	"redoubt/frame"
	"redoubt/pack"
	"redoubt/wal"
)

func sealed(parts ...string) string {
	s, _ := frame.Seal(parts...)
	return s
}

func begins(base string) string { return pack.Nums(1) + pack.Text(base) }

func goesOn(n int) string { return pack.Nums(2, n) }

// drive answers one with these files, all of whose bytes last.
func drive(files map[string]string) *disk.Disk {
	d := disk.New()
	for name, data := range files {
		d.Append(name, data)
		d.Sync(name)
	}
	return d
}

func opened(t *testing.T, d *disk.Disk) (*wal.Log, string, []string) {
	t.Helper()
	l, base, records, e := wal.Open(d)
	if e != api.OK || l == nil {
		t.Fatal("Open", e)
	}
	return l, base, records
}

func has(t *testing.T, d *disk.Disk, files map[string]string) {
	t.Helper()
	names := d.Names("log.")
	if len(names) != len(files) {
		t.Errorf("segments %q", names)
	}
	for name, data := range files {
		if s, ok := d.Read(name); s != data || !ok {
			t.Errorf("%s has %.60x, not %.60x", name, s, data)
		}
	}
}

// tells checks what Open finds, and which segments are left.
func tells(t *testing.T, what string, files map[string]string, base string, records, left []string) {
	t.Helper()
	d := drive(files)
	l, b, r := opened(t, d)
	if b != base || !slices.Equal(r, records) {
		t.Errorf("%s: base %q, records %q", what, b, r)
	}
	names := d.Names("log.")
	slices.Sort(left)
	if !slices.Equal(names, left) {
		t.Errorf("%s: segments %q", what, names)
	}
	last := 0
	for _, name := range left {
		n, _ := strconv.Atoi(name[4:])
		last = max(last, n)
	}
	if l.Segment() != last {
		t.Errorf("%s: the last segment is %d", what, l.Segment())
	}
}

// P9.1: a new drive, none, and one whose power is off.
func TestP9_1New(t *testing.T) {
	d := disk.New()
	l, base, records := opened(t, d)
	if base != "" || len(records) != 0 || l.Segment() != 0 || d.Steps() != 0 {
		t.Error("a new drive")
	}
	if l, base, records, e := wal.Open(nil); l != nil || base != "" || records != nil || e != api.ErrNil {
		t.Error("no drive", e)
	}
	d = drive(map[string]string{"log.1": sealed(begins("b"), "r")})
	d.Fuse(0)
	d.Sync("log.1")
	if l, base, records, e := wal.Open(d); l != nil || base != "" || records != nil || e != api.ErrDown {
		t.Error("the power is off", e)
	}
}

// P9.1: which segments are the log's, and what counts of them.
func TestP9_1Found(t *testing.T) {
	one := sealed(begins("b"), "r1", "r2")
	cut := len(sealed(begins("b"), "r1"))
	type files = map[string]string
	tells(t, "one", files{"log.7": one}, "b", []string{"r1", "r2"}, []string{"log.7"})
	tells(t, "the base alone", files{"log.7": sealed(begins("b"))}, "b", nil, []string{"log.7"})
	tells(t, "torn", files{"log.7": one + "\x04xx"}, "b", []string{"r1", "r2"}, []string{"log.7"})
	tells(t, "goes on behind all", files{"log.7": one, "log.8": sealed(goesOn(len(one)), "r3")}, "b", []string{"r1", "r2", "r3"}, []string{"log.7", "log.8"})
	tells(t, "goes on behind a part", files{"log.7": one, "log.8": sealed(goesOn(cut), "r3")}, "b", []string{"r1", "r3"}, []string{"log.7", "log.8"})
	tells(t, "goes on behind the head", files{"log.7": one, "log.8": sealed(goesOn(len(sealed(begins("b")))), "r3")}, "b", []string{"r3"}, []string{"log.7", "log.8"})
	tells(t, "goes on behind what is torn", files{"log.7": one + "xx", "log.8": sealed(goesOn(len(one)), "r3")}, "b", []string{"r1", "r2", "r3"}, []string{"log.7", "log.8"})
	tells(t, "goes on from 9 to 10", files{"log.9": one, "log.10": sealed(goesOn(len(one)), "r3"), "log.11": sealed(goesOn(len(sealed(goesOn(len(one)), "r3"))))}, "b", []string{"r1", "r2", "r3"}, []string{"log.9", "log.10", "log.11"})
	tells(t, "the greatest number begins", files{"log.9": one, "log.10": sealed(begins("c"), "s")}, "c", []string{"s"}, []string{"log.10"})
	tells(t, "one that begins in a gap", files{"log.2": one, "log.3": sealed(goesOn(len(one)), "r3"), "log.5": sealed(begins("c"))}, "c", nil, []string{"log.5"})
	tells(t, "the greatest number of all", files{"log.999999999": one}, "b", []string{"r1", "r2"}, []string{"log.999999999"})
}

// P9.1: what is no part of the log.
func TestP9_1NoPart(t *testing.T) {
	one := sealed(begins("b"), "r1", "r2")
	type files = map[string]string
	for i, next := range []string{sealed(goesOn(len(one)+1), "r3"), sealed(goesOn(len(one)-1), "r3"), sealed(goesOn(0), "r3"), sealed(goesOn(-1), "r3"), sealed(goesOn(1<<62), "r3"), sealed(goesOn(1), "r3"), "", sealed("r3"), sealed(goesOn(len(one)) + "\x00"), sealed(goesOn(len(one)))[:6], sealed(pack.Nums(3, len(one))), sealed(pack.Nums(2)), sealed("")} {
		tells(t, "no next one "+strconv.Itoa(i), files{"log.7": one, "log.8": next}, "b", []string{"r1", "r2"}, []string{"log.7"})
	}
	for i, first := range []string{"", "\x04", sealed("x"), sealed(goesOn(5)), sealed(pack.Nums(1)), sealed(begins("b") + "\x00"), sealed(begins("b"))[:5], sealed(pack.Nums(0) + pack.Text("b")), "x" + one} {
		tells(t, "no first one "+strconv.Itoa(i), files{"log.7": first}, "", nil, nil)
		tells(t, "no greater first one "+strconv.Itoa(i), files{"log.6": one, "log.8": first}, "b", []string{"r1", "r2"}, []string{"log.6"})
	}
	for _, name := range []string{"log.0", "log.01", "log.007", "log.1000000000", "log.", "log.x", "log.1x", "log..1", "log.7.", "log.99999999999999999999", "log.1.2"} {
		tells(t, name, files{name: one}, "", nil, nil)
		tells(t, name, files{name: one, "log.3": sealed(begins("c"), "s")}, "c", []string{"s"}, []string{"log.3"})
	}
	tells(t, "behind the greatest number", files{"log.999999999": one, "log.1000000000": sealed(goesOn(len(one)), "r3")}, "b", []string{"r1", "r2"}, []string{"log.999999999"})
	tells(t, "a gap", files{"log.7": one, "log.9": sealed(goesOn(len(one)), "r3")}, "b", []string{"r1", "r2"}, []string{"log.7"})
}

// P9.1: other files stay; the rest goes by rising name, and the power may go then.
func TestP9_1Removed(t *testing.T) {
	one := sealed(begins("b"), "r1")
	files := map[string]string{"log.5": one, "log.10": "x", "log.9": "y", "log.1": "z", "logs": "l", "b.1": "c"}
	for fuse := range 4 {
		d := drive(files)
		d.Fuse(fuse)
		l, base, records, e := wal.Open(d)
		if fuse == 3 {
			if e != api.OK || base != "b" || !slices.Equal(records, []string{"r1"}) {
				t.Error("all went", e)
			}
			d.Crash()
			if !slices.Equal(d.Names(""), []string{"b.1", "log.5", "logs"}) {
				t.Errorf("%q", d.Names(""))
			}
			continue
		}
		if l != nil || base != "" || records != nil || e != api.ErrDown {
			t.Error(fuse, e)
		}
		d.Crash()
		if want := []string{"log.1", "log.10", "log.5", "log.9"}; !slices.Equal(d.Names("log."), rest(want, fuse)) {
			t.Errorf("fuse %d: %q", fuse, d.Names("log."))
		}
	}
}

// rest tells which of the segments are left when so many of those that go are gone.
func rest(names []string, gone int) (left []string) {
	for _, name := range names {
		if name != "log.5" && gone > 0 {
			gone--
			continue
		}
		left = append(left, name)
	}
	return left
}

// P9.2: records are put behind the log.
func TestP9_2Append(t *testing.T) {
	d := disk.New()
	l, _, _ := opened(t, d)
	if e := l.Append(); e != api.OK || d.Steps() != 0 || l.Segment() != 0 {
		t.Error("without records", e)
	}
	if e := l.Append("ab"); e != api.OK || d.Steps() != 2 || l.Segment() != 1 {
		t.Error(e, d.Steps())
	}
	has(t, d, map[string]string{"log.1": sealed("\x02\x00", "ab")})
	if e := l.Append("c", "", "d"); e != api.OK || d.Steps() != 4 {
		t.Error(e, d.Steps())
	}
	want := map[string]string{"log.1": sealed("\x02\x00", "ab", "c", "", "d")}
	has(t, d, want)
	d.Crash()
	has(t, d, want)
	if _, base, records := opened(t, d); base != "" || !slices.Equal(records, []string{"ab", "c", "", "d"}) {
		t.Errorf("%q, %q", base, records)
	}
}

// P9.2: how long records may be.
func TestP9_2Long(t *testing.T) {
	d := disk.New()
	l, _, _ := opened(t, d)
	most := strings.Repeat("m", api.MaxRecord)
	size := len(sealed(most))
	for _, records := range [][]string{{most + "m"}, {"a", most + "m"}, {most, most, most, most, most, most, most, strings.Repeat("x", 1<<16-7*size-5)}} {
		if e := l.Append(records...); e != api.ErrLong || d.Steps() != 0 || l.Segment() != 0 {
			t.Error(len(records), e)
		}
	}
	fit := []string{most, most, most, most, most, most, most, strings.Repeat("x", 1<<16-7*size-6)}
	if n := len(sealed(fit...)); n != 1<<16 {
		t.Fatal(n)
	}
	if e := l.Append(fit...); e != api.OK {
		t.Error(e)
	}
	if _, _, records := opened(t, d); !slices.Equal(records, fit) {
		t.Error(len(records))
	}
}

// P9.2: a segment that has enough is followed by the next one.
func TestP9_2TurnOver(t *testing.T) {
	head := len(sealed(begins("")))
	for _, size := range []int{api.SegSize - 2, api.SegSize - 1, api.SegSize, api.SegSize + 1} {
		d := disk.New()
		l, _, _ := opened(t, d)
		first := strings.Repeat("f", size-head-6)
		if e := l.Append(first); e != api.OK {
			t.Fatal(e)
		}
		one, _ := d.Read("log.1")
		if len(one) != size {
			t.Fatal(len(one))
		}
		want := map[string]string{"log.1": one + sealed("r", "s")}
		if size >= api.SegSize {
			want = map[string]string{"log.1": one, "log.2": sealed(goesOn(size), "r", "s")}
		}
		if e := l.Append("r", "s"); e != api.OK || l.Segment() != len(want) || d.Steps() != 4 {
			t.Errorf("%d bytes: %d, segment %d", size, e, l.Segment())
		}
		has(t, d, want)
		if _, _, records := opened(t, d); !slices.Equal(records, []string{first, "r", "s"}) {
			t.Error(len(records))
		}
		l, _, _ = opened(t, d)
		if e := l.Append("t"); e != api.OK || l.Segment() != 2 {
			t.Errorf("%d bytes, opened again: %d, segment %d", size, e, l.Segment())
		}
	}
}

// P9.2: behind a torn segment the next one goes on, behind what counts.
func TestP9_2Torn(t *testing.T) {
	one := sealed(begins("b"), "r1")
	d := drive(map[string]string{"log.4": one + "\x04"})
	l, _, _ := opened(t, d)
	if e := l.Append("r2"); e != api.OK || l.Segment() != 5 {
		t.Error(e, l.Segment())
	}
	has(t, d, map[string]string{"log.4": one + "\x04", "log.5": sealed(goesOn(len(one)), "r2")})
	if e := l.Append("r3"); e != api.OK || l.Segment() != 5 {
		t.Error("torn no more", e, l.Segment())
	}
	if _, base, records := opened(t, d); base != "b" || !slices.Equal(records, []string{"r1", "r2", "r3"}) {
		t.Error(base, records)
	}
}

// P9.2, P9.3: there is no number above 999999999.
func TestP9_2Full(t *testing.T) {
	one := sealed(begins("b"), strings.Repeat("r", 3000))
	d := drive(map[string]string{"log.999999999": one})
	l, _, _ := opened(t, d)
	steps := d.Steps()
	if e := l.Append("x"); e != api.ErrFull {
		t.Error("Append", e)
	}
	if e := l.Lay("x"); e != api.ErrFull {
		t.Error("Lay", e)
	}
	if e := l.Append(strings.Repeat("x", api.MaxRecord+1)); e != api.ErrLong {
		t.Error("ErrLong stands ahead", e)
	}
	if e := l.Lay(strings.Repeat("x", api.MaxBase+1)); e != api.ErrLong {
		t.Error("ErrLong stands ahead", e)
	}
	if e := l.Append(); e != api.OK {
		t.Error("without records", e)
	}
	has(t, d, map[string]string{"log.999999999": one})
	if d.Steps() != steps || l.Segment() != 999999999 {
		t.Error("something was done")
	}
	d = drive(map[string]string{"log.999999998": one})
	l, _, _ = opened(t, d)
	if e := l.Append("x"); e != api.OK || l.Segment() != 999999999 {
		t.Error("the last number", e)
	}
	if e := l.Append("y"); e != api.OK || l.Segment() != 999999999 {
		t.Error("there is room there", e)
	}
}

// P9.2, P9.3: the drive's errors.
func TestP9_2Down(t *testing.T) {
	for fuse := range 2 {
		d := disk.New()
		l, _, _ := opened(t, d)
		d.Fuse(fuse)
		if e := l.Append("x"); e != api.ErrDown {
			t.Error("Append", fuse, e)
		}
	}
	for fuse := range 4 {
		d := drive(map[string]string{"log.1": sealed(begins("")), "log.2": sealed(goesOn(len(sealed(begins("")))))})
		l, _, _ := opened(t, d)
		d.Fuse(fuse)
		if e := l.Lay("x"); e != api.ErrDown {
			t.Error("Lay", fuse, e)
		}
	}
}

// P9.3: a log begins anew.
func TestP9_3Lay(t *testing.T) {
	d := disk.New()
	l, _, _ := opened(t, d)
	if e := l.Lay("w"); e != api.OK || l.Segment() != 1 || d.Steps() != 2 {
		t.Error(e, l.Segment())
	}
	has(t, d, map[string]string{"log.1": sealed(begins("w"))})
	d = disk.New()
	l, _, _ = opened(t, d)
	l.Append("ab")
	if e := l.Lay("x"); e != api.OK || l.Segment() != 2 || d.Steps() != 5 {
		t.Error(e, l.Segment(), d.Steps())
	}
	has(t, d, map[string]string{"log.2": sealed("\x02\x02x")})
	l.Append("cd")
	has(t, d, map[string]string{"log.2": sealed("\x02\x02x", "cd")})
	for range 3 {
		l.Append(strings.Repeat("l", 2500))
	}
	if l.Segment() != 4 {
		t.Fatal(l.Segment())
	}
	d.Append("other", "x")
	d.Fuse(3)
	if e := l.Lay("y"); e != api.ErrDown {
		t.Error(e)
	}
	d.Crash()
	if !slices.Equal(d.Names("log."), []string{"log.3", "log.4", "log.5"}) {
		t.Errorf("by rising number: %q", d.Names("log."))
	}
	l, base, records := opened(t, d)
	if base != "y" || len(records) != 0 || l.Segment() != 5 {
		t.Error(base, records)
	}
}

// P9.3: how long a base may be; a base with many bytes is followed by the next segment.
func TestP9_3Long(t *testing.T) {
	d := disk.New()
	l, _, _ := opened(t, d)
	l.Append("a")
	most := strings.Repeat("m", api.MaxBase)
	if e := l.Lay(most + "m"); e != api.ErrLong || l.Segment() != 1 {
		t.Error(e)
	}
	has(t, d, map[string]string{"log.1": sealed(begins(""), "a")})
	if e := l.Lay(most); e != api.OK || l.Segment() != 2 {
		t.Error(e)
	}
	if e := l.Append("r"); e != api.OK || l.Segment() != 3 {
		t.Error(e, l.Segment())
	}
	if _, base, records := opened(t, d); base != most || !slices.Equal(records, []string{"r"}) {
		t.Error(len(base), records)
	}
	if e := l.Lay(""); e != api.OK || l.Segment() != 4 {
		t.Error(e)
	}
	has(t, d, map[string]string{"log.4": sealed(begins(""))})
}

// P9.3: the old log is found as long as the new one isn't all there.
func TestP9_3Cut(t *testing.T) {
	for keep := range len(sealed(begins("x"))) {
		d := disk.New()
		l, _, _ := opened(t, d)
		l.Append("ab")
		d.Fuse(1)
		l.Lay("x")
		d.Crash(keep)
		l, base, records := opened(t, d)
		if base != "" || !slices.Equal(records, []string{"ab"}) || l.Segment() != 1 {
			t.Error(keep, base, records)
		}
	}
}

// P9.4: no log.
func TestP9_4Nil(t *testing.T) {
	var l *wal.Log
	if l.Append() != api.ErrNil || l.Append("a") != api.ErrNil || l.Lay("a") != api.ErrNil || l.Segment() != 0 {
		t.Error("a nil log does something")
	}
}

// state is what a log may be known to have.
type state struct {
	base    string
	records []string
}

func (s state) is(base string, records []string) bool {
	return s.base == base && slices.Equal(s.records, records)
}

// P9.5: whatever the power does, what was answered OK is there, and behind it only a first part of what was under way.
func TestP9_5Power(t *testing.T) {
	rnd := rand.New(rand.NewSource(1))
	for range 400 {
		d := disk.New()
		known := state{}
		for range 12 {
			l, base, records := opened(t, d)
			if !known.is(base, records) {
				t.Fatal("opened again another one is found")
			}
			d.Fuse(rnd.Intn(14))
			next := steps(rnd, d, l, &known)
			keeps := []int{rnd.Intn(60), rnd.Intn(3000)}
			if rnd.Intn(3) == 0 {
				keeps = nil
			}
			d.Crash(keeps...)
			if rnd.Intn(3) == 0 { // the power may go while it is opened
				d.Fuse(rnd.Intn(2))
				wal.Open(d)
				d.Crash()
			}
			_, base, records = opened(t, d)
			found := state{base, records}
			if !fits(known, next, found) {
				t.Fatalf("known %q %d, under way %q %d, found %q %d", known.base, len(known.records), next.base, len(next.records), base, len(records))
			}
			known = found
		}
	}
}

// steps does things till the power goes; what is under way then is answered.
func steps(rnd *rand.Rand, d *disk.Disk, l *wal.Log, known *state) state {
	for i := 0; ; i++ {
		if rnd.Intn(5) == 0 {
			base := strconv.Itoa(rnd.Int())
			if l.Lay(base) != api.OK {
				return state{base: base}
			}
			*known = state{base: base}
			continue
		}
		var more []string
		for range rnd.Intn(4) {
			more = append(more, strings.Repeat(strconv.Itoa(i), rnd.Intn(3)*rnd.Intn(400)))
		}
		all := append(slices.Clone(known.records), more...)
		if l.Append(more...) != api.OK {
			return state{known.base, all}
		}
		known.records = all
	}
}

// fits tells whether found is what is known, and perhaps a first part of one more Append, or the base alone of a Lay.
func fits(known, next, found state) bool {
	if next.base != known.base {
		return known.is(found.base, found.records) || next.is(found.base, found.records)
	}
	n := len(found.records)
	return found.base == known.base && n >= len(known.records) && n <= len(next.records) && slices.Equal(found.records, next.records[:n])
}
