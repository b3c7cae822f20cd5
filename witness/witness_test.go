package witness_test

import (
	"math/rand"
	"testing"

	"redoubt/api"
	"redoubt/disk"
	"redoubt/pack"
	"redoubt/wal"
	"redoubt/witness"
)

func opened(t *testing.T, d *disk.Disk, epochs int) *witness.Witness {
	t.Helper()
	w, e := witness.Open(d, epochs)
	if e != api.OK || w == nil {
		t.Fatal("Open", e)
	}
	return w
}

func claims(t *testing.T, w *witness.Witness, epoch, site int, want api.Grant, e api.Errno) {
	t.Helper()
	if g, got := w.Claim(epoch, site); g != want || got != e {
		t.Errorf("Claim(%d, %d): %v, %d, not %v, %d", epoch, site, g, got, want, e)
	}
}

// logged answers a drive whose log has that base (none: no Lay) and these records.
func logged(base string, records ...string) *disk.Disk {
	d := disk.New()
	l, _, _, _ := wal.Open(d)
	if base != "" {
		l.Lay(base)
	}
	l.Append(records...)
	return d
}

// P20.1: what a drive has.
func TestP20_1Open(t *testing.T) {
	w := opened(t, disk.New(), 16)
	if w.Grant() != (api.Grant{}) {
		t.Error(w.Grant())
	}
	for _, epochs := range []int{0, -1, 17} {
		for _, d := range []*disk.Disk{nil, disk.New()} {
			if w, e := witness.Open(d, epochs); w != nil || e != api.ErrArg {
				t.Error(epochs, e)
			}
		}
	}
	if w, e := witness.Open(nil, 1); w != nil || e != api.ErrNil {
		t.Error(e)
	}
	d := disk.New()
	d.Fuse(0)
	d.Append("x", "")
	if w, e := witness.Open(d, 1); w != nil || e != api.ErrDown {
		t.Error(e)
	}
	w = opened(t, logged("", pack.Nums(1, 1), pack.Nums(2, 0), pack.Nums(3, 1)), 2)
	if w.Grant() != (api.Grant{Epoch: 3, Site: 1}) {
		t.Error(w.Grant())
	}
}

// P20.1: a log that isn't the register's.
func TestP20_1Form(t *testing.T) {
	one := pack.Nums(1, 0)
	for i, d := range []*disk.Disk{logged("x"), logged("x", one), logged("", pack.Nums(2, 0)), logged("", pack.Nums(0, 0)), logged("", one, one), logged("", one, pack.Nums(3, 0)), logged("", pack.Nums(1, 2)), logged("", pack.Nums(1, -1)), logged("", pack.Nums(1)), logged("", pack.Nums(1, 0, 0)), logged("", ""), logged("", one, "\x80")} {
		if w, e := witness.Open(d, 16); w != nil || e != api.ErrForm {
			t.Error(i, e)
		}
	}
}

// P20.2: epochs are given one by one, each to one site.
func TestP20_2Claim(t *testing.T) {
	d := disk.New()
	w := opened(t, d, 16)
	claims(t, w, 0, 0, api.Grant{}, api.OK)
	claims(t, w, 2, 0, api.Grant{}, api.OK)
	if d.Steps() != 0 {
		t.Error("who only asks is told")
	}
	claims(t, w, 1, 1, api.Grant{Epoch: 1, Site: 1}, api.OK)
	claims(t, w, 1, 0, api.Grant{Epoch: 1, Site: 1}, api.OK)
	claims(t, w, 1, 1, api.Grant{Epoch: 1, Site: 1}, api.OK)
	claims(t, w, 3, 0, api.Grant{Epoch: 1, Site: 1}, api.OK)
	claims(t, w, 16, 0, api.Grant{Epoch: 1, Site: 1}, api.OK)
	claims(t, w, 0, 0, api.Grant{Epoch: 1, Site: 1}, api.OK)
	claims(t, w, 2, 0, api.Grant{Epoch: 2}, api.OK)
	if w.Grant() != (api.Grant{Epoch: 2}) || d.Steps() != 4 {
		t.Error(w.Grant(), d.Steps())
	}
	for _, x := range []struct{ epoch, site int }{{-1, 0}, {17, 0}, {3, -1}, {3, 2}, {0, 2}} {
		claims(t, w, x.epoch, x.site, api.Grant{}, api.ErrArg)
	}
	_, base, records, _ := wal.Open(d)
	if base != "" || len(records) != 2 || records[0] != pack.Nums(1, 1) || records[1] != pack.Nums(2, 0) {
		t.Errorf("%q, %q", base, records)
	}
	if again := opened(t, d, 16); again.Grant() != (api.Grant{Epoch: 2}) {
		t.Error(again.Grant())
	}
}

// P20.2: no epoch above so many.
func TestP20_2Saturated(t *testing.T) {
	for epochs := 1; epochs <= 16; epochs++ {
		d := disk.New()
		w := opened(t, d, epochs)
		for n := 1; n <= epochs; n++ {
			claims(t, w, n, n%2, api.Grant{Epoch: n, Site: n % 2}, api.OK)
		}
		want := api.ErrSaturated
		if epochs == 16 {
			want = api.ErrArg
		}
		steps := d.Steps()
		claims(t, w, epochs+1, 0, api.Grant{}, want)
		if w.Grant() != (api.Grant{Epoch: epochs, Site: epochs % 2}) || d.Steps() != steps {
			t.Error(w.Grant())
		}
		if epochs < 15 {
			claims(t, w, epochs+2, 0, api.Grant{Epoch: epochs, Site: epochs % 2}, api.OK)
		}
		claims(t, w, epochs, 0, api.Grant{Epoch: epochs, Site: epochs % 2}, api.OK)
	}
	w := opened(t, logged("", pack.Nums(1, 1), pack.Nums(2, 0), pack.Nums(3, 1)), 2)
	claims(t, w, 4, 0, api.Grant{}, api.ErrSaturated)
	claims(t, w, 3, 0, api.Grant{Epoch: 3, Site: 1}, api.OK)
}

// P20.2: the power goes.
func TestP20_2Down(t *testing.T) {
	for fuse := range 2 {
		d := disk.New()
		w := opened(t, d, 16)
		d.Fuse(fuse)
		claims(t, w, 1, 1, api.Grant{}, api.ErrDown)
	}
}

// P20.3: no register.
func TestP20_3Nil(t *testing.T) {
	var w *witness.Witness
	claims(t, w, -1, 0, api.Grant{}, api.ErrNil)
	if w.Grant() != (api.Grant{}) {
		t.Error(w.Grant())
	}
}

// P20.4: wherever the power goes, each epoch is granted to one site, and stays so.
func TestP20_4Power(t *testing.T) {
	rnd := rand.New(rand.NewSource(1))
	for range 300 {
		d := disk.New()
		owner := map[int]int{}
		last := 0
		tell := func(g api.Grant) {
			if site, ok := owner[g.Epoch]; g.Epoch > 0 && ok && site != g.Site {
				t.Fatalf("epoch %d of both sites", g.Epoch)
			}
			if g.Epoch < last || g.Epoch > last+1 {
				t.Fatalf("epoch %d behind %d", g.Epoch, last)
			}
			owner[g.Epoch], last = g.Site, g.Epoch
		}
		for range 12 {
			w := opened(t, d, 16)
			tell(w.Grant())
			d.Fuse(rnd.Intn(7))
			for range 8 {
				g, e := w.Claim(min(last+rnd.Intn(3), 16), rnd.Intn(2))
				if e == api.ErrDown {
					break
				}
				if e == api.OK {
					tell(g)
				}
			}
			d.Crash(rnd.Intn(12))
		}
	}
}
