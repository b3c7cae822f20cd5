package disk_test

import (
	"slices"
	"strings"
	"testing"

	"redoubt/api"
	"redoubt/disk"
)

func want(t *testing.T, what string, got, e api.Errno) {
	t.Helper()
	if got != e {
		t.Errorf("%s: %d, not %d", what, got, e)
	}
}

func has(t *testing.T, d *disk.Disk, name, data string) {
	t.Helper()
	if s, ok := d.Read(name); s != data || !ok {
		t.Errorf("%s has %.40q, %v, not %.40q", name, s, ok, data)
	}
}

func hasNot(t *testing.T, d *disk.Disk, name string) {
	t.Helper()
	if s, ok := d.Read(name); s != "" || ok {
		t.Errorf("%s has %.40q, %v", name, s, ok)
	}
}

// P5.1: bytes are put, synced, taken away.
func TestP5_1Ordinary(t *testing.T) {
	d := disk.New()
	if d.Down() || d.Steps() != 0 || len(d.Names("")) != 0 {
		t.Error("a new drive")
	}
	want(t, "Append", d.Append("a", "xy"), api.OK)
	want(t, "Append", d.Append("a", "z"), api.OK)
	has(t, d, "a", "xyz")
	want(t, "Append of nothing", d.Append("b.0", ""), api.OK)
	has(t, d, "b.0", "")
	want(t, "Sync", d.Sync("a"), api.OK)
	want(t, "Append", d.Append("a", "q"), api.OK)
	has(t, d, "a", "xyzq")
	want(t, "Remove", d.Remove("a"), api.OK)
	hasNot(t, d, "a")
	want(t, "Append anew", d.Append("a", "n"), api.OK)
	has(t, d, "a", "n")
	if d.Steps() != 7 {
		t.Error(d.Steps())
	}
}

// P5.1: names that may be, and that may not.
func TestP5_1Names(t *testing.T) {
	d := disk.New()
	for _, name := range []string{"", "A", "a b", "a/b", "a-b", "a_b", "é", "a\x00", strings.Repeat("a", 81), "`", "{", "/", ":", "Z"} {
		want(t, "Append "+name, d.Append(name, "x"), api.ErrArg)
		want(t, "Sync "+name, d.Sync(name), api.ErrArg)
		want(t, "Remove "+name, d.Remove(name), api.ErrArg)
		hasNot(t, d, name)
	}
	for _, name := range []string{".", "a", "z", "0", "9", "..", "abc.0123456789", strings.Repeat("a", 80)} {
		want(t, "Append "+name, d.Append(name, "x"), api.OK)
		want(t, "Sync "+name, d.Sync(name), api.OK)
		want(t, "Remove "+name, d.Remove(name), api.OK)
	}
	if d.Steps() != 24 {
		t.Error(d.Steps())
	}
}

// P5.1: what is refused, and in which order.
func TestP5_1Refused(t *testing.T) {
	d := disk.New()
	want(t, "Sync of none", d.Sync("a"), api.ErrNone)
	want(t, "Remove of none", d.Remove("a"), api.ErrNone)
	most := strings.Repeat("m", api.MaxFile)
	want(t, "too much", d.Append("a", most+"m"), api.ErrFull)
	hasNot(t, d, "a")
	want(t, "as much as may be", d.Append("a", most), api.OK)
	want(t, "nothing more", d.Append("a", ""), api.OK)
	want(t, "one more", d.Append("a", "x"), api.ErrFull)
	want(t, "Sync", d.Sync("a"), api.OK)
	want(t, "one more, behind what lasts", d.Append("a", "x"), api.ErrFull)
	has(t, d, "a", most)
	if d.Steps() != 3 {
		t.Error("what is refused is no step", d.Steps())
	}
	d.Fuse(0)
	want(t, "the fuse", d.Append("b", ""), api.ErrDown)
	want(t, "Append with the power off", d.Append("a", "x"), api.ErrDown)
	want(t, "a bad name with the power off", d.Append("A", ""), api.ErrArg)
	want(t, "a bad name with the power off", d.Sync("A"), api.ErrArg)
	want(t, "a bad name with the power off", d.Remove("A"), api.ErrArg)
	want(t, "Sync of none with the power off", d.Sync("b"), api.ErrDown)
	want(t, "Remove of none with the power off", d.Remove("b"), api.ErrDown)
}

// P5.2: what is there, what isn't, and with the power off.
func TestP5_2Asked(t *testing.T) {
	d := disk.New()
	for _, name := range []string{"b.2", "b.1", "a", "b.10", "b", "b.0", "bb", "9", "."} {
		d.Append(name, name)
	}
	for prefix, list := range map[string][]string{"": {".", "9", "a", "b", "b.0", "b.1", "b.10", "b.2", "bb"}, "b.": {"b.0", "b.1", "b.10", "b.2"}, "b.1": {"b.1", "b.10"}, "b.10": {"b.10"}, "c": nil, "B": nil, "b.100": nil} {
		if got := d.Names(prefix); !slices.Equal(got, list) {
			t.Errorf("%q: %q", prefix, got)
		}
	}
	hasNot(t, d, "c")
	hasNot(t, d, "")
	steps := d.Steps()
	d.Fuse(0)
	if d.Down() {
		t.Error("the fuse alone takes no power")
	}
	want(t, "the fuse", d.Sync("a"), api.ErrDown)
	if !d.Down() || d.Steps() != steps {
		t.Error("down", d.Down(), d.Steps())
	}
	hasNot(t, d, "a")
	if len(d.Names("")) != 0 {
		t.Error("names with the power off")
	}
	d.Crash(9, 9, 9, 9, 9, 9, 9, 9, 9)
	has(t, d, "a", "a")
	if d.Down() || d.Steps() != steps || len(d.Names("")) != 9 {
		t.Error("behind the loss of power")
	}
}

// P5.3: the power goes behind so many steps, whichever these are.
func TestP5_3Fuse(t *testing.T) {
	d := disk.New()
	d.Fuse(1)
	want(t, "first", d.Append("a", "q"), api.OK)
	want(t, "second", d.Sync("a"), api.ErrDown)
	d.Crash(5)
	has(t, d, "a", "q")
	for n := range 5 {
		d := disk.New()
		d.Fuse(n)
		d.Sync("none")
		d.Append("A", "")
		steps := []func() api.Errno{func() api.Errno { return d.Append("a", "x") }, func() api.Errno { return d.Sync("a") }, func() api.Errno { return d.Remove("a") }, func() api.Errno { return d.Append("a", "") }}
		for i, step := range steps {
			e := step()
			if i < n && e != api.OK || i >= n && e != api.ErrDown {
				t.Errorf("fuse %d, step %d: %d", n, i, e)
			}
		}
		if d.Down() != (n < 4) || d.Steps() != min(n, 4) {
			t.Error(n, d.Down(), d.Steps())
		}
	}
	d = disk.New()
	d.Fuse(2)
	d.Append("a", "x")
	d.Fuse(2)
	d.Append("a", "y")
	want(t, "a new fuse counts from now on", d.Append("a", "z"), api.OK)
	d.Fuse(-1)
	want(t, "no fuse", d.Sync("a"), api.OK)
	d.Fuse(0)
	d.Fuse(-5)
	want(t, "no fuse", d.Append("a", "w"), api.OK)
	has(t, d, "a", "xyzw")
	d.Fuse(0)
	d.Crash()
	want(t, "no fuse behind a loss of power", d.Append("a", "v"), api.OK)
	has(t, d, "a", "xyzv")
	d.Fuse(0)
	d.Append("a", "u")
	d.Fuse(9)
	want(t, "a fuse brings no power", d.Append("a", "u"), api.ErrDown)
}

// P5.3: what stays when the power goes.
func TestP5_3Crash(t *testing.T) {
	d := disk.New()
	d.Append("a", "xy")
	d.Sync("a")
	d.Append("a", "z")
	c := d.Copy()
	c.Crash()
	has(t, c, "a", "xy")
	c = d.Copy()
	c.Crash(1)
	has(t, c, "a", "xyz")
	c = d.Copy()
	c.Crash(7)
	has(t, c, "a", "xyz")
	c = d.Copy()
	c.Crash(-1)
	has(t, c, "a", "xy")
	d = disk.New()
	for _, name := range []string{"e", "d", "c", "b", "a"} {
		d.Append(name, "1234")
	}
	d.Sync("b")
	d.Append("c", "56")
	d.Crash(2, 5, 0)
	has(t, d, "a", "12")
	has(t, d, "b", "1234")
	has(t, d, "c", "12345")
	hasNot(t, d, "d")
	hasNot(t, d, "e")
	if !slices.Equal(d.Names(""), []string{"a", "b", "c"}) {
		t.Error(d.Names(""))
	}
}

// P5.3: files that were never synced, and have nothing that is kept.
func TestP5_3Never(t *testing.T) {
	d := disk.New()
	d.Append("a", "")
	d.Append("b", "")
	d.Sync("b")
	d.Append("c", "x")
	d.Append("d", "y")
	d.Crash(0, 1)
	hasNot(t, d, "a")
	has(t, d, "b", "")
	hasNot(t, d, "c")
	has(t, d, "d", "y")
	d.Crash()
	has(t, d, "b", "")
	has(t, d, "d", "y")
	d.Append("d", "z")
	d.Crash()
	has(t, d, "d", "y")
	d.Append("a", "new")
	d.Remove("a")
	d.Crash()
	hasNot(t, d, "a")
	d.Remove("b")
	d.Append("b", "q")
	d.Crash()
	hasNot(t, d, "b")
}

// P5.4: a bit turns where it stands.
func TestP5_4Flip(t *testing.T) {
	d := disk.New()
	want(t, "no file", d.Flip("a", 0), api.ErrNone)
	want(t, "no file of that name", d.Flip("A", 0), api.ErrNone)
	d.Append("a", "")
	want(t, "no bit", d.Flip("a", 0), api.ErrArg)
	d.Append("a", "ab")
	d.Sync("a")
	d.Append("a", "cd")
	steps := d.Steps()
	for bit := range 32 {
		want(t, "Flip", d.Flip("a", bit), api.OK)
		b := []byte("abcd")
		b[bit/8] ^= 1 << (bit % 8)
		has(t, d, "a", string(b))
		want(t, "Flip", d.Flip("a", bit), api.OK)
		has(t, d, "a", "abcd")
	}
	want(t, "below", d.Flip("a", -1), api.ErrArg)
	want(t, "far below", d.Flip("a", -9), api.ErrArg)
	want(t, "above", d.Flip("a", 32), api.ErrArg)
	if d.Steps() != steps {
		t.Error("Flip is no step")
	}
	d.Flip("a", 1)
	d.Flip("a", 17)
	c := d.Copy()
	c.Crash()
	has(t, c, "a", "cb")
	c = d.Copy()
	c.Crash(2)
	has(t, c, "a", "cbad")
	d.Fuse(0)
	d.Sync("a")
	want(t, "with the power off", d.Flip("a", 24), api.OK)
	want(t, "no file, with the power off", d.Flip("b", 0), api.ErrNone)
	d.Crash(2)
	has(t, d, "a", "cbae")
}

// P5.4: a copy has the same files, fuse and count, and goes its own way.
func TestP5_4Copy(t *testing.T) {
	d := disk.New()
	d.Append("a", "x")
	d.Sync("a")
	d.Append("a", "y")
	d.Append("b", "z")
	d.Fuse(1)
	c := d.Copy()
	if c.Steps() != 4 || c.Down() {
		t.Error(c.Steps(), c.Down())
	}
	want(t, "the copy's first step", c.Append("a", "q"), api.OK)
	want(t, "the copy's second step", c.Append("a", "q"), api.ErrDown)
	has(t, d, "a", "xy")
	want(t, "the first one's step", d.Remove("b"), api.OK)
	want(t, "the first one's second step", d.Remove("a"), api.ErrDown)
	e := d.Copy()
	if !e.Down() {
		t.Error("the power of a copy")
	}
	c.Crash(9, 9)
	has(t, c, "b", "z")
	has(t, c, "a", "xyq")
	c.Flip("a", 0)
	e.Crash()
	has(t, e, "a", "x")
	if !d.Down() {
		t.Error("the power of the first one came")
	}
}

// P5.5: a nil drive.
func TestP5_5Nil(t *testing.T) {
	var d *disk.Disk
	d.Fuse(1)
	d.Crash(1)
	want(t, "Append", d.Append("A", ""), api.ErrNil)
	want(t, "Sync", d.Sync("a"), api.ErrNil)
	want(t, "Remove", d.Remove("a"), api.ErrNil)
	want(t, "Flip", d.Flip("a", 0), api.ErrNil)
	hasNot(t, d, "a")
	if d.Names("") != nil || d.Down() || d.Steps() != 0 || d.Copy() != nil {
		t.Error("a nil drive answers something")
	}
}

// P5.6: what a Sync found is there behind any loss of power, in front of what came later.
func TestP5_6Lasts(t *testing.T) {
	for fuse := range 12 {
		for keep := range 6 {
			d := disk.New()
			d.Fuse(fuse)
			synced, put := "", ""
			for i := range 5 {
				piece := strings.Repeat(string(rune('a'+i)), i+1)
				if d.Append("f", piece) == api.OK {
					put += piece
				}
				if d.Sync("f") == api.OK {
					synced = put
				}
			}
			if !d.Down() {
				d.Append("f", "later")
				put += "later"
			}
			d.Crash(keep)
			s, _ := d.Read("f")
			if !strings.HasPrefix(s, synced) || !strings.HasPrefix(put, s) || len(s) > len(synced)+keep {
				t.Errorf("fuse %d, keep %d: %q, of %q synced, %q put", fuse, keep, s, synced, put)
			}
			d.Append("f", "gone")
			d.Crash()
			if again, _ := d.Read("f"); again != s {
				t.Errorf("fuse %d, keep %d: %q, and then %q", fuse, keep, s, again)
			}
		}
	}
}

// Rule 5: what is handed in stays as it is, and what is answered is new memory.
func TestRule5Memory(t *testing.T) {
	d := disk.New()
	d.Append("a", "x")
	d.Append("b", "x")
	names := d.Names("")
	names[0] = "changed"
	if !slices.Equal(d.Names(""), []string{"a", "b"}) {
		t.Error(d.Names(""))
	}
	keeps := []int{1, 0, 7}
	d.Crash(keeps...)
	if !slices.Equal(keeps, []int{1, 0, 7}) {
		t.Error(keeps)
	}
}
