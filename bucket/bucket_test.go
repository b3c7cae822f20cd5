package bucket_test

import (
	"math/rand"
	"slices"
	"testing"

	"redoubt/api"
	"redoubt/bucket"
)

func made(t *testing.T, rate, burst int) *bucket.Bucket {
	t.Helper()
	b, e := bucket.New(rate, burst)
	if e != api.OK || b == nil {
		t.Fatal("New", e)
	}
	return b
}

// P16.1: rate and burst.
func TestP16_1New(t *testing.T) {
	for _, x := range []struct {
		rate, burst int
		e           api.Errno
	}{{1, 64, api.OK}, {1 << 12, 1 << 14, api.OK}, {0, 64, api.ErrArg}, {-1, 64, api.ErrArg}, {1<<12 + 1, 64, api.ErrArg}, {1, 63, api.ErrArg}, {1, 0, api.ErrArg}, {1, 1<<14 + 1, api.ErrArg}} {
		b, e := bucket.New(x.rate, x.burst)
		if e != x.e || (b != nil) != (e == api.OK) {
			t.Error(x, e)
		}
		if e == api.OK && b.Left() != x.burst {
			t.Error("a new one is full", b.Left())
		}
	}
}

// P16.1: with each tick rate more, but no more than burst.
func TestP16_1Tick(t *testing.T) {
	b := made(t, 10, 100)
	b.Tick()
	if b.Left() != 100 {
		t.Error(b.Left())
	}
	b.Take(95)
	for _, left := range []int{15, 25, 35, 45, 55, 65, 75, 85, 95, 100, 100} {
		b.Tick()
		if b.Left() != left {
			t.Error(b.Left(), left)
		}
	}
	b = made(t, 1<<12, 64)
	b.Take(64)
	b.Tick()
	if b.Left() != 64 {
		t.Error("a rate above the burst", b.Left())
	}
}

// P16.2: from the front, as long as it goes.
func TestP16_2Take(t *testing.T) {
	for _, x := range []struct {
		sizes  []int
		n, end int
	}{{nil, 0, 100}, {[]int{60, 50, 1}, 1, 40}, {[]int{100}, 1, 0}, {[]int{101}, 0, 100}, {[]int{-1}, 0, 100}, {[]int{1, -1, 1}, 1, 99}, {[]int{0, 0, 0}, 3, 100}, {[]int{60, 40, 0, 0, 1, 0}, 4, 0}, {[]int{-1 << 63}, 0, 100}, {[]int{1<<63 - 1}, 0, 100}, {[]int{1, 1<<63 - 1}, 1, 99}} {
		b := made(t, 10, 100)
		sizes := slices.Clone(x.sizes)
		if n := b.Take(sizes...); n != x.n || b.Left() != x.end {
			t.Errorf("%v: %d, %d left", x.sizes, n, b.Left())
		}
		if !slices.Equal(sizes, x.sizes) {
			t.Error("what was handed in changed")
		}
	}
	b := made(t, 10, 100)
	b.Take(60, 50, 1)
	b.Tick()
	if b.Left() != 50 || b.Take(-1) != 0 || b.Left() != 50 {
		t.Error("the chapter's example", b.Left())
	}
}

// P16.3: a copy goes its own way; no bucket.
func TestP16_3Copy(t *testing.T) {
	b := made(t, 10, 100)
	b.Take(70)
	c := b.Copy()
	c.Take(30)
	if b.Left() != 30 || c.Left() != 0 {
		t.Error(b.Left(), c.Left())
	}
	b.Tick()
	c.Tick()
	c.Tick()
	if b.Left() != 40 || c.Left() != 20 {
		t.Error(b.Left(), c.Left())
	}
	for range 20 {
		c.Tick()
	}
	if c.Left() != 100 {
		t.Error("the burst of a copy", c.Left())
	}
	var none *bucket.Bucket
	none.Tick()
	if none.Take(0) != 0 || none.Left() != 0 || none.Copy() != nil {
		t.Error("a nil bucket answers something")
	}
}

// P16.4: in any time no more goes than burst, and rate for each tick; and what is at most burst goes in time.
func TestP16_4Any(t *testing.T) {
	rnd := rand.New(rand.NewSource(1))
	for range 200 {
		rate, burst := 1+rnd.Intn(50), 64+rnd.Intn(100)
		b := made(t, rate, burst)
		var went []int // by tick
		for range 60 {
			now := 0
			for range rnd.Intn(4) {
				if size := rnd.Intn(120); b.Take(size) == 1 {
					now += size
				}
			}
			went = append(went, now)
			b.Tick()
		}
		for i := range went {
			total := 0
			for j := i; j < len(went); j++ {
				total += went[j]
				if total > burst+rate*(j-i) {
					t.Fatalf("%d bytes in %d ticks", total, j-i)
				}
			}
		}
		b.Take(b.Left())
		for range (burst + rate - 1) / rate {
			b.Tick()
		}
		if b.Take(burst) != 1 {
			t.Fatal("what is burst doesn't go", b.Left())
		}
	}
}
