package crown_test

import (
	"math/rand"
	"slices"
	"testing"

	"redoubt/api"
	"redoubt/crown"
	"redoubt/deed"
	"redoubt/ledger"
)

func made(t *testing.T, site, epochs int) *crown.Crown {
	t.Helper()
	c, e := crown.New(site, epochs)
	if e != api.OK || c == nil {
		t.Fatal("New", e)
	}
	return c
}

func empty() *ledger.Ledger {
	l, _ := ledger.New(100, 64)
	return l
}

func grant(epoch, site int) api.Mail {
	return api.Mail{Kind: api.MailGrant, Epoch: epoch, Site: site}
}

func claims(t *testing.T, what string, c *crown.Crown, epoch, site int) {
	t.Helper()
	m := c.Tick()
	if m.Kind != api.MailClaim || m.Epoch != epoch || m.Site != site || m.Term != 0 || m.Good || m.Data != "" || len(m.Ops) != 0 {
		t.Errorf("%s: %v", what, m)
	}
	if c.Wants() != epoch {
		t.Errorf("%s: wants %d", what, c.Wants())
	}
}

func next(t *testing.T, what string, c *crown.Crown, l *ledger.Ledger, epoch, site int) {
	t.Helper()
	want := api.Command{}
	if epoch > 0 {
		want = api.Command{Kind: api.CmdReign, Epoch: epoch, Site: site}
	}
	if got, ok := c.Next(l); deed.Pack(got) != deed.Pack(want) || ok != (epoch > 0) {
		t.Errorf("%s: %v, %v", what, got, ok)
	}
}

// P21.1: whose crowns may be.
func TestP21_1New(t *testing.T) {
	for _, x := range []struct {
		site, epochs int
		e            api.Errno
	}{{0, 1, api.OK}, {1, 16, api.OK}, {-1, 1, api.ErrArg}, {2, 1, api.ErrArg}, {0, 0, api.ErrArg}, {0, -1, api.ErrArg}, {0, 17, api.ErrArg}} {
		c, e := crown.New(x.site, x.epochs)
		if e != x.e || (c != nil) != (e == api.OK) {
			t.Error(x, e)
		}
		if e == api.OK {
			claims(t, "new", c, 0, x.site)
			next(t, "new", c, empty(), 0, 0)
			if c.Heard() != 0 || c.Primary(empty()) != api.ErrPrimary {
				t.Error("new", c.Heard())
			}
		}
	}
}

// P21.2: what is wanted.
func TestP21_2Want(t *testing.T) {
	for _, x := range []struct {
		fence, heard, told, epochs int
		e                          api.Errno
		wants                      int
	}{{0, 0, 0, 3, api.OK, 1}, {2, 0, 0, 3, api.OK, 3}, {3, 0, 0, 3, api.ErrSaturated, 0}, {0, 2, 0, 3, api.OK, 3}, {0, 3, 0, 3, api.ErrSaturated, 0}, {0, 0, 2, 3, api.OK, 3}, {0, 0, 3, 3, api.ErrSaturated, 0}, {1, 5, 4, 16, api.OK, 6}, {7, 5, 4, 16, api.OK, 8}, {-1, 0, 0, 3, api.ErrSaturated, 0}, {-1, 2, 0, 3, api.ErrSaturated, 0}, {1<<63 - 1, 0, 0, 16, api.ErrSaturated, 0}, {-1 << 63, 0, 0, 16, api.ErrSaturated, 0}, {15, 0, 0, 16, api.OK, 16}, {16, 0, 0, 16, api.ErrSaturated, 0}} {
		c := made(t, 1, x.epochs)
		c.Take(grant(x.told, 0))
		c.Hear(x.heard)
		if e := c.Want(x.fence); e != x.e {
			t.Error(x, e)
		}
		claims(t, "wants", c, x.wants, 1)
	}
	c := made(t, 0, 3)
	c.Want(0)
	for _, fence := range []int{0, 2, 3, 99, -1} {
		if e := c.Want(fence); e != api.OK {
			t.Error("wants one already", e)
		}
		claims(t, "wants one already", c, 1, 0)
	}
	c.Rest()
	claims(t, "rests", c, 0, 0)
	if e := c.Want(1); e != api.OK {
		t.Error(e)
	}
	claims(t, "wants anew", c, 2, 0)
}

// P21.3: what the witness tells.
func TestP21_3Take(t *testing.T) {
	c := made(t, 0, 16)
	for i, m := range []api.Mail{{}, {Kind: api.MailClaim, Epoch: 3}, {Kind: api.MailGrant, Epoch: 17}, {Kind: api.MailGrant, Epoch: -1}, {Kind: api.MailGrant, Site: 1}, {Kind: api.MailGrant, Epoch: 3, Site: 2}, {Kind: api.MailGrant, Epoch: 3, Term: 1}, {Kind: api.MailShipped, Epoch: 3}} {
		if c.Take(m) || c.Heard() != 0 {
			t.Error(i, c.Heard())
		}
	}
	c.Want(4)
	if !c.Take(grant(0, 0)) || c.Wants() != 5 || c.Heard() != 0 {
		t.Error("nothing was granted yet")
	}
	if !c.Take(grant(4, 1)) || c.Wants() != 5 || c.Heard() != 4 {
		t.Error("less than it wants", c.Wants(), c.Heard())
	}
	next(t, "of the other site", c, empty(), 0, 0)
	if c.Take(grant(3, 0)) || c.Heard() != 4 {
		t.Error("less than it was told")
	}
	if !c.Take(grant(5, 0)) || c.Wants() != 0 || c.Heard() != 5 {
		t.Error("what it wants", c.Wants(), c.Heard())
	}
	next(t, "its own", c, empty(), 5, 0)
	if !c.Take(grant(5, 0)) {
		t.Error("the same again")
	}
	c.Want(0)
	c.Hear(9)
	if !c.Take(grant(8, 1)) || c.Wants() != 0 || c.Heard() != 9 {
		t.Error("more than it wants", c.Wants(), c.Heard())
	}
	next(t, "of the other site", c, empty(), 0, 0)
}

// P21.3: what it hears of.
func TestP21_3Hear(t *testing.T) {
	c := made(t, 0, 3)
	for _, x := range []struct{ epoch, heard int }{{0, 0}, {-1, 0}, {2, 2}, {1, 2}, {17, 2}, {1 << 62, 2}, {16, 16}, {3, 16}} {
		if c.Hear(x.epoch); c.Heard() != x.heard {
			t.Error(x, c.Heard())
		}
	}
}

// P21.4: the epoch that is to begin.
func TestP21_4Next(t *testing.T) {
	for site := range 2 {
		c := made(t, site, 16)
		l := empty()
		c.Take(grant(2, site))
		next(t, "above the fence", c, l, 2, site)
		l.Apply(api.Command{Kind: api.CmdShip, Epoch: 1, Site: 1 - site})
		next(t, "above the fence", c, l, 2, site)
		command, _ := c.Next(l)
		if d := l.Apply(command); d.Err != api.OK {
			t.Error(d)
		}
		next(t, "begun", c, l, 0, 0)
		c.Take(grant(4, site))
		l.Apply(api.Command{Kind: api.CmdShip, Epoch: 5, Site: 1 - site})
		next(t, "below the fence", c, l, 0, 0)
		c.Take(grant(6, 1-site))
		next(t, "of the other site", c, l, 0, 0)
	}
}

// P21.5: who may change something.
func TestP21_5Primary(t *testing.T) {
	for site := range 2 {
		c := made(t, site, 16)
		l := empty()
		is := func(what string, e api.Errno) {
			t.Helper()
			if got := c.Primary(l); got != e {
				t.Errorf("%s: %d, not %d", what, got, e)
			}
		}
		is("no reign", api.ErrPrimary)
		c.Hear(1)
		is("no reign, and heard of one", api.ErrPrimary)
		l.Apply(api.Command{Kind: api.CmdReign, Epoch: 1, Site: site})
		is("its own", api.OK)
		c.Hear(2)
		is("heard of a later one", api.ErrStale)
		l.Apply(api.Command{Kind: api.CmdShip, Epoch: 2, Site: 1 - site})
		is("the fence is above", api.ErrPrimary)
		l.Apply(api.Command{Kind: api.CmdReign, Epoch: 3, Site: 1 - site})
		is("the other site's", api.ErrPrimary)
		l.Apply(api.Command{Kind: api.CmdReign, Epoch: 4, Site: site})
		is("its own again", api.OK)
		c.Take(grant(5, site))
		is("granted, and not begun", api.ErrStale)
		if c.Primary(nil) != api.ErrPrimary {
			t.Error("no ledger")
		}
	}
}

// P21.6: a copy goes its own way; no crown.
func TestP21_6Copy(t *testing.T) {
	c := made(t, 1, 5)
	c.Take(grant(2, 1))
	c.Hear(3)
	c.Want(0)
	d := c.Copy()
	claims(t, "copy", d, 4, 1)
	next(t, "copy", d, empty(), 2, 1)
	c.Rest()
	d.Hear(4)
	d.Take(grant(3, 0))
	if c.Wants() != 0 || c.Heard() != 3 || d.Wants() != 4 || d.Heard() != 4 {
		t.Error(c.Wants(), c.Heard(), d.Wants(), d.Heard())
	}
	next(t, "first", c, empty(), 2, 1)
	next(t, "copy", d, empty(), 0, 0)
	d.Rest()
	d.Hear(5)
	if d.Want(0) != api.ErrSaturated || c.Want(0) != api.OK {
		t.Error("the epochs of a copy")
	}
}

// P21.6: no crown.
func TestP21_6Nil(t *testing.T) {
	var c *crown.Crown
	c.Rest()
	c.Hear(3)
	if c.Want(-1) != api.ErrNil || c.Take(grant(1, 0)) || c.Primary(empty()) != api.ErrNil || c.Wants() != 0 || c.Heard() != 0 || c.Copy() != nil || c.Tick().Kind != 0 {
		t.Error("a nil crown answers something")
	}
	next(t, "none", c, empty(), 0, 0)
}

// P21.7: each epoch begins at one site at most; never both sites have the same one as their own.
func TestP21_7Both(t *testing.T) {
	rnd := rand.New(rand.NewSource(1))
	for range 300 {
		granted := []api.Grant{{}}
		crowns := [2]*crown.Crown{made(t, 0, 16), made(t, 1, 16)}
		ledgers := [2]*ledger.Ledger{empty(), empty()}
		begun := map[int]int{}
		for range 100 {
			site := rnd.Intn(2)
			c, l := crowns[site], ledgers[site]
			switch rnd.Intn(5) {
			case 0:
				c.Want(l.Fence())
			case 1:
				if m := c.Tick(); m.Epoch == len(granted) && rnd.Intn(3) > 0 {
					granted = append(granted, api.Grant{Epoch: m.Epoch, Site: m.Site})
				}
			case 2: // what the witness said comes, or something older
				g := granted[rnd.Intn(len(granted))]
				c.Take(grant(g.Epoch, g.Site))
			case 3:
				if command, ok := c.Next(l); ok && l.Apply(command).Err == api.OK {
					if other, twice := begun[command.Epoch]; twice && other != site {
						t.Fatal("epoch", command.Epoch, "begins at both sites")
					}
					begun[command.Epoch] = site
				}
			case 4:
				other := ledgers[1-site]
				if c.Primary(l) == api.OK {
					ops := l.Ops()
					from := min(seam(ops, other.Ops()), len(ops))
					ship := api.Command{Kind: api.CmdShip, Epoch: l.Fence(), Site: site, Ops: ops[from:min(from+8, len(ops))]}
					if from > 0 {
						ship.After, ship.Since = from, ops[from-1].Epoch
					}
					other.Apply(ship)
					crowns[1-site].Hear(l.Fence())
				}
			}
			a, b := crowns[0].Primary(ledgers[0]), crowns[1].Primary(ledgers[1])
			if a == api.OK && b == api.OK && ledgers[0].Fence() == ledgers[1].Fence() {
				t.Fatal("both sites are the primary one in epoch", ledgers[0].Fence())
			}
		}
	}
}

// seam answers up to where two lists of operations are one.
func seam(a, b []api.Op) int {
	n := min(len(a), len(b))
	for n > 0 && !slices.EqualFunc(a[n-1:n], b[n-1:n], func(x, y api.Op) bool { return x.Epoch == y.Epoch }) {
		n--
	}
	return n
}
