package hunt_test

import (
	"slices"
	"strconv"
	"strings"
	"testing"

	"redoubt/api"
	"redoubt/bucket"
	"redoubt/disk"
	"redoubt/hunt"
	"redoubt/sha"
	"redoubt/vault"
)

func made(t *testing.T, me int) *hunt.Hunt {
	t.Helper()
	h, e := hunt.New(me)
	if e != api.OK || h == nil {
		t.Fatal("New", e)
	}
	return h
}

func missing(n int) (list []string) {
	for i := range n {
		list = append(list, "h"+strconv.Itoa(i))
	}
	return list
}

// P19.1: whose hunts may be.
func TestP19_1New(t *testing.T) {
	for me := -2; me < 9; me++ {
		h, e := hunt.New(me)
		may := me >= 0 && me <= 5
		if may && (e != api.OK || h.Turn() != 0) || !may && (e != api.ErrArg || h != nil) {
			t.Error(me, e)
		}
	}
}

// P19.2: whom to ask for what.
func TestP19_2Tick(t *testing.T) {
	h := made(t, 5)
	for i, want := range []int{0, 1, 2, 3, 4, 0, 1} {
		if to, hashes := h.Tick("a"); to != want || !slices.Equal(hashes, []string{"a"}) || h.Turn() != i+1 {
			t.Error(i, to, hashes)
		}
	}
	for me := range 6 {
		h := made(t, me)
		asked := map[int]int{}
		for range 5 {
			to, _ := h.Tick("a")
			asked[to]++
		}
		if len(asked) != 5 || asked[me] != 0 {
			t.Error(me, asked)
		}
	}
}

// P19.2: rows of four, one for five ticks.
func TestP19_2Rows(t *testing.T) {
	for n := range 14 {
		h := made(t, 2)
		list := missing(n)
		rows := (n + 3) / 4
		for turn := range 40 {
			to, hashes := h.Tick(list...)
			if n == 0 {
				if to != -1 || len(hashes) != 0 {
					t.Error("none is missing", to, hashes)
				}
				continue
			}
			row := turn / 5 % rows
			if to != (3+turn%5)%6 || !slices.Equal(hashes, list[4*row:min(4*row+4, n)]) {
				t.Errorf("%d, turn %d: %d, %q", n, turn, to, hashes)
			}
		}
		if h.Turn() != 40 {
			t.Error(h.Turn())
		}
	}
	h := made(t, 5)
	for range 7 {
		h.Tick()
	}
	if to, hashes := h.Tick(missing(5)...); to != 2 || !slices.Equal(hashes, []string{"h4"}) {
		t.Error("turns go on while nothing is missing", to, hashes)
	}
	list := missing(3)
	_, hashes := made(t, 0).Tick(list...)
	hashes[0] = "changed"
	if !slices.Equal(list, missing(3)) {
		t.Error("what was handed in changed")
	}
}

// P19.3: the chunks that go out.
func TestP19_3Serve(t *testing.T) {
	d := disk.New()
	v, _ := vault.Open(d, 1<<20)
	long := strings.Repeat("l", 60)
	a, _ := v.Put("aaa")
	b, _ := v.Put(long)
	c, _ := v.Put("c")
	bad, _ := v.Put("bad")
	none := sha.Sum("none")
	serves := func(what string, bk *bucket.Bucket, want []string, hashes ...string) {
		t.Helper()
		if got := hunt.Serve(v, bk, hashes...); !slices.Equal(got, want) {
			t.Errorf("%s: %q", what, got)
		}
	}
	serves("none", nil, nil)
	serves("without a bucket", nil, []string{"c", long, "aaa", "c"}, c, none, b, a, "", c)
	d.Flip("b."+sha.Name(bad), 3)
	serves("a bit turned", nil, []string{"aaa"}, bad, a, bad)
	if len(v.Missing(bad)) != 1 || len(v.List()) != 3 {
		t.Error("what isn't whole is taken away")
	}
	bk, _ := bucket.New(1, 64)
	serves("with a bucket", bk, []string{long, "aaa", "c"}, b, none, a, c)
	if bk.Left() != 0 {
		t.Error(bk.Left())
	}
	bk, _ = bucket.New(1, 64)
	serves("the first that can't go ends all", bk, []string{long, "aaa"}, b, a, a, c, none, c)
	if bk.Left() != 1 {
		t.Error(bk.Left())
	}
	serves("then that one", bk, []string{"c"}, none, c, c)
	if got := hunt.Serve(nil, nil, a); len(got) != 0 {
		t.Error("no vault", got)
	}
}

// P19.4: a copy goes its own way; no hunt.
func TestP19_4Copy(t *testing.T) {
	h := made(t, 3)
	h.Tick("a")
	c := h.Copy()
	h.Tick("a")
	if to, _ := c.Tick("a"); to != 5 || c.Turn() != 2 || h.Turn() != 2 {
		t.Error(to, c.Turn(), h.Turn())
	}
	var none *hunt.Hunt
	if to, hashes := none.Tick("a"); to != -1 || hashes != nil || none.Turn() != 0 || none.Copy() != nil {
		t.Error("a nil hunt answers something")
	}
}

// P19.5: what stays missing is asked for of each other node in time, whatever the turn is.
func TestP19_5All(t *testing.T) {
	for me := range 6 {
		for n := 1; n < 18; n++ {
			for start := range 70 {
				h := made(t, me)
				for range start {
					h.Tick()
				}
				asked := map[string]int{}
				for range 5 * ((n + 3) / 4) {
					to, hashes := h.Tick(missing(n)...)
					for _, hash := range hashes {
						asked[hash+" of "+strconv.Itoa(to)]++
					}
				}
				for to := range 6 {
					for _, hash := range missing(n) {
						if to != me && asked[hash+" of "+strconv.Itoa(to)] == 0 {
							t.Fatalf("node %d, turn %d: %s isn't asked of %d", me, start, hash, to)
						}
					}
				}
			}
		}
	}
}
