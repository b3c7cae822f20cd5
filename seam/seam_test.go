package seam_test

import (
	"math/rand"
	"slices"
	"testing"

	"redoubt/api"
	"redoubt/seam"
)

// P17.1: up to where all lists have the same.
func TestP17_1Common(t *testing.T) {
	for i, x := range []struct {
		lists [][]int
		n     int
	}{{nil, 0}, {[][]int{{}}, 0}, {[][]int{{1, 2, 3}}, 3}, {[][]int{{1, 1, 2}, {1, 1, 1, 3}}, 2}, {[][]int{{1, 1, 2}, {}}, 0}, {[][]int{{1}, {2}}, 0}, {[][]int{{1, 2}, {1, 2}, {1, 3}}, 1}, {[][]int{{1, 2}, {1, 2}, {1, 2, 2}}, 2}, {[][]int{{9, 2}, {1, 2}}, 2}, {[][]int{{1, 1, 3}, {1, 2, 3}, {1, 2, 3, 4}}, 3}, {[][]int{nil, nil}, 0}, {[][]int{{0, -5}, {0, -5}}, 2}} {
		if n := seam.Common(x.lists...); n != x.n {
			t.Errorf("%d: %d, not %d", i, n, x.n)
		}
	}
}

// P17.2: what the taker says.
func TestP17_2Hint(t *testing.T) {
	for i, x := range []struct {
		list         []int
		after, since int
		want         api.Spot
	}{
		{[]int{1, 1, 1, 3}, 3, 2, api.Spot{N: 2, Epoch: 1}},
		{[]int{1, 1, 1, 3}, 4, 2, api.Spot{N: 3, Epoch: 1}},
		{[]int{1, 1, 1, 3}, 5, 2, api.Spot{N: 3, Epoch: 1}},
		{[]int{1, 1, 1, 3}, 5, 3, api.Spot{N: 4, Epoch: 3}},
		{[]int{1, 1, 1, 3}, 1 << 62, 9, api.Spot{N: 4, Epoch: 3}},
		{[]int{1, 1, 1, 3}, 4, 3, api.Spot{N: 3, Epoch: 1}},
		{[]int{2, 3}, 3, 1, api.Spot{}},
		{[]int{2, 3}, 1, 9, api.Spot{}},
		{[]int{2, 3}, 2, 9, api.Spot{N: 1, Epoch: 2}},
		{[]int{2, 3}, 0, 9, api.Spot{}},
		{[]int{2, 3}, -1, 9, api.Spot{}},
		{[]int{2, 3}, -1 << 63, 9, api.Spot{}},
		{nil, 5, 5, api.Spot{}},
		{[]int{3, 1, 3}, 4, 2, api.Spot{N: 2, Epoch: 1}},
	} {
		if got := seam.Hint(x.list, x.after, x.since); got != x.want {
			t.Errorf("%d: %v, not %v", i, got, x.want)
		}
	}
}

// P17.2: where the sender looks next.
func TestP17_2Next(t *testing.T) {
	for i, x := range []struct {
		list []int
		hint api.Spot
		want int
	}{
		{[]int{1, 1, 2}, api.Spot{N: 2, Epoch: 1}, 2},
		{[]int{1, 1, 2}, api.Spot{N: 3, Epoch: 1}, 2},
		{[]int{1, 1, 2}, api.Spot{N: 3, Epoch: 2}, 3},
		{[]int{1, 1, 2}, api.Spot{N: 9, Epoch: 9}, 3},
		{[]int{1, 1, 2}, api.Spot{N: 1, Epoch: 9}, 1},
		{[]int{1, 1, 2}, api.Spot{N: 3, Epoch: 0}, 0},
		{[]int{1, 1, 2}, api.Spot{}, 0},
		{[]int{1, 1, 2}, api.Spot{N: -1, Epoch: 5}, 0},
		{[]int{1, 1, 2}, api.Spot{N: -1 << 63, Epoch: 5}, 0},
		{nil, api.Spot{N: 5, Epoch: 5}, 0},
		{[]int{3, 1, 3}, api.Spot{N: 3, Epoch: 2}, 2},
	} {
		list := slices.Clone(x.list)
		if got := seam.Next(list, x.hint); got != x.want || !slices.Equal(list, x.list) {
			t.Errorf("%d: %d, not %d", i, got, x.want)
		}
	}
}

// history answers two lists that are of one history: one operation has one past.
func history(rnd *rand.Rand) (a, b []int) {
	epoch := 1
	for range rnd.Intn(12) {
		epoch += rnd.Intn(2)
		a = append(a, epoch)
	}
	b = slices.Clone(a)
	mine := 0
	for range rnd.Intn(5) { // each epoch from now on is of one of both
		epoch++
		mine = rnd.Intn(2)
		own := &a
		if mine == 1 {
			own = &b
		}
		for range 1 + rnd.Intn(5) {
			*own = append(*own, epoch)
		}
		if rnd.Intn(3) == 0 { // the other one takes some of it
			cut := rnd.Intn(len(*own) + 1)
			if mine == 1 {
				a = slices.Clone(b[:cut])
			} else {
				b = slices.Clone(a[:cut])
			}
		}
	}
	return a, b
}

func oneHistory(a, b []int) bool {
	for n := range min(len(a), len(b)) {
		if a[n] == b[n] && !slices.Equal(a[:n], b[:n]) {
			return false
		}
	}
	return slices.IsSorted(a) && slices.IsSorted(b)
}

// P17.3: looking ends where both part, behind few questions.
func TestP17_3Looked(t *testing.T) {
	rnd := rand.New(rand.NewSource(1))
	seen := 0
	for range 20000 {
		sender, taker := history(rnd)
		if !oneHistory(sender, taker) {
			continue
		}
		seen++
		n, questions := len(sender), 1
		for n > 0 && (n > len(taker) || taker[n-1] != sender[n-1]) {
			n = seam.Next(sender, seam.Hint(taker, n, sender[n-1]))
			questions++
		}
		epochs := len(slices.Compact(slices.Clone(sender)))
		if n != seam.Common(sender, taker) || questions > epochs+1 {
			t.Fatalf("%v, %v: %d behind %d questions", sender, taker, n, questions)
		}
	}
	if seen < 1000 {
		t.Error("few lists", seen)
	}
}
