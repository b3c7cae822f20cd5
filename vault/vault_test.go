package vault_test

import (
	"math/rand"
	"slices"
	"strings"
	"testing"

	"redoubt/api"
	"redoubt/disk"
	"redoubt/sha"
	"redoubt/vault"
)

const roomy = 1 << 20

func opened(t *testing.T, d *disk.Disk, quota int) *vault.Vault {
	t.Helper()
	v, e := vault.Open(d, quota)
	if e != api.OK || v == nil {
		t.Fatal("Open", e)
	}
	return v
}

func fileOf(chunk string) string { return "b." + sha.Name(sha.Sum(chunk)) }

func put(t *testing.T, v *vault.Vault, chunk string) string {
	t.Helper()
	hash, e := v.Put(chunk)
	if e != api.OK || hash != sha.Sum(chunk) {
		t.Fatal("Put", e)
	}
	return hash
}

func gets(t *testing.T, v *vault.Vault, hash, chunk string, e api.Errno) {
	t.Helper()
	if data, got := v.Get(hash); data != chunk || got != e {
		t.Errorf("Get: %q, %d, not %q, %d", data, got, chunk, e)
	}
}

func down(d *disk.Disk) {
	d.Fuse(0)
	d.Append("x", "")
}

// P10.1: what Open refuses.
func TestP10_1Refused(t *testing.T) {
	off := disk.New()
	down(off)
	for _, x := range []struct {
		d     *disk.Disk
		quota int
		e     api.Errno
	}{{nil, 10, api.ErrNil}, {nil, -1, api.ErrNil}, {disk.New(), -1, api.ErrArg}, {disk.New(), 1<<20 + 1, api.ErrArg}, {off, -1, api.ErrArg}, {off, 5, api.ErrDown}, {disk.New(), 0, api.OK}, {disk.New(), 1 << 20, api.OK}} {
		v, e := vault.Open(x.d, x.quota)
		if e != x.e || (v != nil) != (e == api.OK) {
			t.Error(x.quota, e)
		}
	}
}

// P10.1: files that aren't whole chunks go, by rising name; others stay.
func TestP10_1Opened(t *testing.T) {
	d := disk.New()
	most := strings.Repeat("m", 64)
	whole := []string{"abc", most, "\x00"}
	for _, chunk := range whole {
		d.Append(fileOf(chunk), chunk)
	}
	long := strings.Repeat("l", 65)
	d.Append(fileOf(long), long)
	d.Append(fileOf(""), "")
	d.Append(fileOf("turned"), "turnec")
	d.Append(fileOf("cut"), "cu")
	d.Append("b.", "x")
	d.Append("b.00", "x")
	d.Append("b."+strings.Repeat("x", 64), "x")
	d.Append("b", "x")
	d.Append("ba", "x")
	d.Append("log.1", "x")
	v := opened(t, d, 0)
	var names, hashes []string
	for _, chunk := range whole {
		names, hashes = append(names, fileOf(chunk)), append(hashes, sha.Sum(chunk))
	}
	slices.Sort(names)
	slices.Sort(hashes)
	if !slices.Equal(d.Names("b."), names) || !slices.Equal(v.List(), hashes) {
		t.Errorf("%q", d.Names("b."))
	}
	if len(d.Names("")) != len(whole)+3 {
		t.Errorf("%q", d.Names(""))
	}
	for _, hash := range hashes {
		if v.Held(hash) != 0 || !v.Has(hash) {
			t.Error("found, and not held")
		}
	}
}

// P10.1: the power may go while files are removed.
func TestP10_1Down(t *testing.T) {
	for fuse := range 4 {
		d := disk.New()
		for _, name := range []string{"b.c", "b.a", "b.b"} {
			d.Append(name, "x")
			d.Sync(name)
		}
		d.Fuse(fuse)
		v, e := vault.Open(d, 5)
		if fuse < 3 && (v != nil || e != api.ErrDown) || fuse == 3 && e != api.OK {
			t.Error(fuse, e)
		}
		d.Crash()
		if !slices.Equal(d.Names("b."), []string{"b.a", "b.b", "b.c"}[fuse:]) {
			t.Errorf("%d: %q", fuse, d.Names("b."))
		}
	}
}

// P10.2: a chunk is put, and lasts.
func TestP10_2Put(t *testing.T) {
	d := disk.New()
	v := opened(t, d, roomy)
	if hash, e := v.Put(""); hash != "" || e != api.ErrArg {
		t.Error("no bytes", e)
	}
	if hash, e := v.Put(strings.Repeat("x", 65)); hash != "" || e != api.ErrArg {
		t.Error("65 bytes", e)
	}
	put(t, v, "a")
	put(t, v, strings.Repeat("x", 64))
	put(t, v, "abc")
	if d.Steps() != 6 {
		t.Error("each one is put and synced", d.Steps())
	}
	put(t, v, "abc")
	if d.Steps() != 6 {
		t.Error("put again, nothing is written", d.Steps())
	}
	if name := fileOf("abc"); len(name) != 66 || !slices.Contains(d.Names(""), name) {
		t.Errorf("%q", d.Names(""))
	}
	if s, _ := d.Read(fileOf("abc")); s != "abc" {
		t.Errorf("%q", s)
	}
	d.Crash()
	gets(t, opened(t, d, 0), sha.Sum("abc"), "abc", api.OK)
}

// P10.2: the quota.
func TestP10_2Quota(t *testing.T) {
	d := disk.New()
	v := opened(t, d, 0)
	if hash, e := v.Put("x"); hash != "" || e != api.ErrQuota || d.Steps() != 0 {
		t.Error(e)
	}
	v = opened(t, d, 10)
	put(t, v, "1234")
	put(t, v, "567890")
	if v.Bytes() != 10 {
		t.Error(v.Bytes())
	}
	put(t, v, "1234")
	if hash, e := v.Put("x"); hash != "" || e != api.ErrQuota {
		t.Error("above", e)
	}
	if v.Has(sha.Sum("x")) || v.Bytes() != 10 || len(v.List()) != 2 {
		t.Error("what was refused is there")
	}
	v.Hold(sha.Sum("1234"))
	v.Sweep()
	if _, e := v.Put("1234567"); e != api.ErrQuota {
		t.Error("one above", e)
	}
	put(t, v, "567890")
	if hash, e := opened(t, d, 3).Put("q"); hash != "" || e != api.ErrQuota {
		t.Error("more is there than the quota is", e)
	}
}

// P10.2: what is kept, but not whole, is written anew.
func TestP10_2Anew(t *testing.T) {
	d := disk.New()
	v := opened(t, d, 6)
	put(t, v, "abc")
	put(t, v, "de")
	d.Flip(fileOf("abc"), 9)
	steps := d.Steps()
	put(t, v, "abc")
	gets(t, v, sha.Sum("abc"), "abc", api.OK)
	if d.Steps() != steps+3 || v.Bytes() != 5 {
		t.Error("removed, put, synced", d.Steps()-steps, v.Bytes())
	}
	for fuse := range 3 {
		d := disk.New()
		v := opened(t, d, 6)
		put(t, v, "abc")
		d.Flip(fileOf("abc"), 9)
		d.Fuse(fuse)
		if hash, e := v.Put("abc"); hash != "" || e != api.ErrDown {
			t.Error(fuse, e)
		}
	}
}

// P10.2: with the power off, or while it goes.
func TestP10_2Down(t *testing.T) {
	for fuse := range 2 {
		d := disk.New()
		v := opened(t, d, roomy)
		d.Fuse(fuse)
		if hash, e := v.Put("abc"); hash != "" || e != api.ErrDown {
			t.Error(fuse, e)
		}
		if hash, e := v.Put("abc"); hash != "" || e != api.ErrDown {
			t.Error(fuse, e)
		}
		if hash, e := v.Put(""); hash != "" || e != api.ErrArg {
			t.Error("ErrArg stands ahead", e)
		}
	}
	d := disk.New()
	v := opened(t, d, roomy)
	put(t, v, "abc")
	down(d)
	if hash, e := v.Put("abc"); hash != "" || e != api.ErrDown {
		t.Error("what is there", e)
	}
	d = disk.New()
	v = opened(t, d, 0)
	down(d)
	if hash, e := v.Put("abc"); hash != "" || e != api.ErrDown {
		t.Error("ErrDown stands ahead of ErrQuota", e)
	}
}

// P10.3: what is there, what isn't, what is turned.
func TestP10_3Get(t *testing.T) {
	d := disk.New()
	v := opened(t, d, roomy)
	a, b := put(t, v, "abc"), put(t, v, "xyz")
	gets(t, v, a, "abc", api.OK)
	for _, hash := range []string{"", "x", sha.Sum("q"), a[:31], a + "x", strings.Repeat("y", 100)} {
		gets(t, v, hash, "", api.ErrMissing)
		if v.Has(hash) {
			t.Errorf("Has %x", hash)
		}
	}
	d.Flip(fileOf("abc"), 0)
	if v.Has(a) || !v.Has(b) {
		t.Error("Has of what is turned")
	}
	steps := d.Steps()
	gets(t, v, a, "", api.ErrCorrupt)
	if d.Steps() != steps+1 || len(d.Names("b.")) != 1 || !slices.Equal(v.List(), []string{b}) {
		t.Error("it isn't removed")
	}
	gets(t, v, a, "", api.ErrMissing)
	gets(t, v, b, "xyz", api.OK)
}

// P10.3: the same with the power off, or while it goes.
func TestP10_3Down(t *testing.T) {
	d := disk.New()
	v := opened(t, d, roomy)
	a := put(t, v, "abc")
	d.Flip(fileOf("abc"), 0)
	d.Fuse(0)
	gets(t, v, a, "", api.ErrDown)
	gets(t, v, sha.Sum("none"), "", api.ErrDown)
	d.Flip(fileOf("abc"), 0)
	if v.Has(a) {
		t.Error("Has with the power off")
	}
	if m := v.Missing(a); !slices.Equal(m, []string{a}) {
		t.Error("Missing with the power off")
	}
	d.Crash()
	if s, ok := d.Read(fileOf("abc")); s != "abc" || !ok {
		t.Error("it was removed")
	}
}

// P10.3: which ones are missing, in order, each once.
func TestP10_3Missing(t *testing.T) {
	d := disk.New()
	v := opened(t, d, roomy)
	a, b := put(t, v, "abc"), put(t, v, "xyz")
	d.Flip(fileOf("xyz"), 5)
	if m := v.Missing(); len(m) != 0 {
		t.Error(m)
	}
	if m := v.Missing("q", a, "p", b, "q", a, b, "", "p", ""); !slices.Equal(m, []string{"q", "p", b, ""}) {
		t.Errorf("%q", m)
	}
	if m := v.Missing(a, a); len(m) != 0 {
		t.Errorf("%q", m)
	}
	if len(d.Names("b.")) != 2 {
		t.Error("asking removes nothing")
	}
}

// P10.4: how often a hash is held.
func TestP10_4Held(t *testing.T) {
	v := opened(t, disk.New(), roomy)
	v.Hold()
	v.Free("a")
	if v.Held("a") != 0 {
		t.Error("never below 0")
	}
	v.Hold("a", "b", "a")
	v.Hold("b", "c")
	if v.Held("a") != 2 || v.Held("b") != 2 || v.Held("c") != 1 || v.Held("d") != 0 {
		t.Error(v.Held("a"), v.Held("b"), v.Held("c"))
	}
	v.Free("a", "c", "c", "c", "b")
	if v.Held("a") != 1 || v.Held("b") != 1 || v.Held("c") != 0 {
		t.Error(v.Held("a"), v.Held("b"), v.Held("c"))
	}
	v.Hold("c")
	v.Free("a", "a")
	if v.Held("a") != 0 || v.Held("c") != 1 {
		t.Error(v.Held("a"), v.Held("c"))
	}
}

// P10.4: what isn't held goes.
func TestP10_4Sweep(t *testing.T) {
	d := disk.New()
	v := opened(t, d, roomy)
	x := put(t, v, "x")
	v.Hold(x)
	if n, e := v.Sweep(); n != 0 || e != api.OK {
		t.Error(n, e)
	}
	v.Free(x)
	if n, e := v.Sweep(); n != 1 || e != api.OK {
		t.Error(n, e)
	}
	if n, e := v.Sweep(); n != 0 || e != api.OK {
		t.Error(n, e)
	}
	a, b, c := put(t, v, "a"), put(t, v, "b"), put(t, v, "c")
	v.Hold(b, b)
	v.Free(b)
	d.Append("b.other", "x")
	d.Append("log.1", "x")
	if n, e := v.Sweep(); n != 2 || e != api.OK || v.Has(a) || !v.Has(b) || v.Has(c) || !slices.Equal(v.List(), []string{b}) {
		t.Error(n, e)
	}
	if len(d.Names("")) != 3 {
		t.Errorf("%q", d.Names(""))
	}
	if v := opened(t, d, roomy); v.Held(b) != 0 {
		t.Error("held, though opened anew")
	}
}

// P10.4: a sweep while the power goes: by rising hash.
func TestP10_4SweepDown(t *testing.T) {
	for fuse := range 3 {
		d := disk.New()
		v := opened(t, d, roomy)
		var names []string
		for _, chunk := range []string{"a", "b", "c", "d"} {
			put(t, v, chunk)
			names = append(names, fileOf(chunk))
		}
		slices.Sort(names)
		v.Hold(sha.Sum("d"))
		d.Fuse(fuse)
		if n, e := v.Sweep(); n != 0 || e != api.ErrDown {
			t.Error(fuse, n, e)
		}
		if n, e := v.Sweep(); n != 0 || e != api.ErrDown {
			t.Error(fuse, n, e)
		}
		d.Crash()
		held, gone := fileOf("d"), 0
		left := slices.DeleteFunc(names, func(name string) bool {
			if name == held || gone == fuse {
				return false
			}
			gone++
			return true
		})
		if !slices.Equal(d.Names("b."), left) || len(v.List()) != len(left) {
			t.Errorf("%d: %q, %d kept", fuse, d.Names("b."), len(v.List()))
		}
	}
	d := disk.New()
	v := opened(t, d, roomy)
	d.Fuse(0)
	if n, e := v.Sweep(); n != 0 || e != api.OK {
		t.Error("nothing to remove is no step", n, e)
	}
	down(d)
	if n, e := v.Sweep(); n != 0 || e != api.ErrDown {
		t.Error("the power is off", n, e)
	}
}

// P10.4: how many bytes, and which hashes.
func TestP10_4List(t *testing.T) {
	d := disk.New()
	v := opened(t, d, roomy)
	if v.Bytes() != 0 || len(v.List()) != 0 {
		t.Error("a new one")
	}
	var hashes []string
	total := 0
	for i := range 40 {
		chunk := strings.Repeat(string(rune('a'+i)), i+1)[:min(i+1, 64)]
		hashes = append(hashes, put(t, v, chunk))
		total += len(chunk)
	}
	slices.Sort(hashes)
	if v.Bytes() != total || !slices.Equal(v.List(), hashes) {
		t.Error(v.Bytes(), total)
	}
	v.List()[0] = "changed"
	if !slices.Equal(v.List(), hashes) {
		t.Error("what is answered is new memory")
	}
	v.Hold(hashes[0])
	down(d)
	if v.Bytes() != 0 || len(v.List()) != 0 {
		t.Error("with the power off")
	}
}

// P10.5: no vault.
func TestP10_5Nil(t *testing.T) {
	var v *vault.Vault
	v.Hold("a")
	v.Free("a")
	gets(t, v, "a", "", api.ErrNil)
	if hash, e := v.Put(""); hash != "" || e != api.ErrNil {
		t.Error(e)
	}
	if n, e := v.Sweep(); n != 0 || e != api.ErrNil {
		t.Error(e)
	}
	if v.Has("a") || v.Missing("a") != nil || v.Held("a") != 0 || v.Bytes() != 0 || v.List() != nil {
		t.Error("a nil vault answers something")
	}
}

// P10.6: whatever the power does, and whatever bits turn.
func TestP10_6Power(t *testing.T) {
	rnd := rand.New(rand.NewSource(1))
	chunk := func() string { return strings.Repeat(string(rune('a'+rnd.Intn(12))), 1+rnd.Intn(3)) }
	for range 200 {
		d := disk.New()
		sure := map[string]int{}
		for range 10 {
			v := opened(t, d, roomy)
			for _, hash := range v.List() {
				if !v.Has(hash) {
					t.Fatal("a file isn't whole")
				}
			}
			for c := range sure {
				gets(t, v, sha.Sum(c), c, api.OK)
			}
			d.Fuse(rnd.Intn(12))
			for !d.Down() {
				c := chunk()
				if _, e := v.Put(c); e == api.OK {
					sure[c] = 1
				}
				if rnd.Intn(4) == 0 {
					v.Hold(sha.Sum(c))
					v.Sweep()
					clear(sure)
					d.Fuse(-1)
					for _, hash := range v.List() {
						c, e := v.Get(hash)
						if e != api.OK {
							t.Fatal(e)
						}
						sure[c] = 1
					}
					d.Fuse(rnd.Intn(6))
				}
			}
			d.Crash(rnd.Intn(3), rnd.Intn(3))
			if rnd.Intn(2) == 0 {
				turn(t, rnd, d, sure)
			}
		}
	}
}

// turn turns a bit of a file: what is read is what was put, or an error.
func turn(t *testing.T, rnd *rand.Rand, d *disk.Disk, sure map[string]int) {
	v := opened(t, d, roomy)
	names := d.Names("b.")
	if len(names) == 0 {
		return
	}
	d.Flip(names[rnd.Intn(len(names))], rnd.Intn(8))
	for c := range sure {
		if data, e := v.Get(sha.Sum(c)); e == api.OK && data != c || e != api.OK && e != api.ErrCorrupt {
			t.Fatalf("%q, %d, not %q", data, e, c)
		}
		if !v.Has(sha.Sum(c)) {
			delete(sure, c)
		}
	}
}
