package post_test

import (
	"slices"
	"strconv"
	"testing"

	"redoubt/api"
	"redoubt/post"
)

func made(t *testing.T, most int, letters ...api.Letter) *post.Post {
	t.Helper()
	p, e := post.New(most)
	if e != api.OK || p == nil {
		t.Fatal("New", e)
	}
	for _, l := range letters {
		if e := p.Send(l); e != api.OK {
			t.Fatal("Send", e)
		}
	}
	return p
}

func letter(from, to int, data string) api.Letter {
	return api.Letter{From: from, To: to, Data: data}
}

// lie checks that just these letters lie there.
func lie(t *testing.T, p *post.Post, letters ...api.Letter) {
	t.Helper()
	if p.Len() != len(letters) {
		t.Errorf("%d letters, not %d", p.Len(), len(letters))
	}
	for k, l := range letters {
		if x, ok := p.At(k); x != l || !ok {
			t.Errorf("letter %d: %v, %v, not %v", k, x, ok, l)
		}
	}
	for _, k := range []int{-1, len(letters), len(letters) + 1, 1 << 40, -1 << 63} {
		if x, ok := p.At(k); x != (api.Letter{}) || ok {
			t.Errorf("letter %d: %v, %v", k, x, ok)
		}
	}
}

// P6.1: room for so many.
func TestP6_1New(t *testing.T) {
	for _, most := range []int{0, -1, 513, 1 << 40, -1 << 63} {
		if p, e := post.New(most); p != nil || e != api.ErrArg {
			t.Error(most, p, e)
		}
	}
	for _, most := range []int{1, 2, 511, 512} {
		p := made(t, most)
		lie(t, p)
		for i := range most {
			if e := p.Send(letter(0, 1, strconv.Itoa(i))); e != api.OK {
				t.Error(most, i, e)
			}
		}
		if e := p.Send(letter(0, 1, "x")); e != api.ErrFull || p.Len() != most {
			t.Error(most, e, p.Len())
		}
		if l, _ := p.At(most - 1); l.Data != strconv.Itoa(most-1) {
			t.Error("the last one", l)
		}
	}
}

// P6.1: letters of the nodes 0 to 6, to themselves, too.
func TestP6_1Send(t *testing.T) {
	p := made(t, 100)
	var all []api.Letter
	for from := -2; from < 9; from++ {
		for to := -2; to < 9; to++ {
			may := from >= 0 && from <= 6 && to >= 0 && to <= 6
			l := letter(from, to, "x")
			e := p.Send(l)
			if may && e != api.OK || !may && e != api.ErrArg {
				t.Error(from, to, e)
			}
			if may {
				all = append(all, l)
			}
		}
	}
	lie(t, p, all...)
	full := made(t, 1, letter(0, 0, "a"))
	if e := full.Send(letter(7, 0, "")); e != api.ErrArg {
		t.Error("ErrArg stands ahead of ErrFull", e)
	}
	lie(t, full, letter(0, 0, "a"))
}

// P6.2: the k-th one is taken, and those behind it are one further ahead.
func TestP6_2Take(t *testing.T) {
	a, b, c, d := letter(0, 1, "a"), letter(1, 6, "b"), letter(2, 2, "c"), letter(6, 5, "d")
	for k := range 4 {
		all := []api.Letter{a, b, c, d}
		p := made(t, 4, all...)
		l, e := p.Take(k)
		if l != all[k] || e != api.OK {
			t.Error(k, l, e)
		}
		lie(t, p, slices.Delete(all, k, k+1)...)
		if e := p.Send(letter(3, 3, "new")); e != api.OK {
			t.Error("the room is free again", e)
		}
	}
	p := made(t, 4, a, b)
	for _, k := range []int{-1, 2, 3, 1 << 40, -1 << 63} {
		if l, e := p.Take(k); l != (api.Letter{}) || e != api.ErrNone {
			t.Error(k, l, e)
		}
	}
	lie(t, p, a, b)
}

// P6.2: the k-th one lies behind the others, too.
func TestP6_2Twin(t *testing.T) {
	a, b := letter(0, 1, "a"), letter(1, 6, "b")
	p := made(t, 3, a, b)
	for _, k := range []int{-1, 2, 1 << 40} {
		if e := p.Twin(k); e != api.ErrNone {
			t.Error(k, e)
		}
	}
	if e := p.Twin(0); e != api.OK {
		t.Error(e)
	}
	lie(t, p, a, b, a)
	if e := p.Twin(1); e != api.ErrFull {
		t.Error(e)
	}
	if e := p.Twin(3); e != api.ErrNone {
		t.Error("ErrNone stands ahead of ErrFull", e)
	}
	lie(t, p, a, b, a)
}

// P6.2: all letters from or to nodes are lost.
func TestP6_2Purge(t *testing.T) {
	a, b, c, d, e := letter(0, 1, "a"), letter(1, 6, "b"), letter(2, 2, "c"), letter(6, 5, "d"), letter(6, 6, "e")
	for _, x := range []struct {
		nodes []int
		n     int
		stay  []api.Letter
	}{{nil, 0, []api.Letter{a, b, c, d, e}}, {[]int{6}, 3, []api.Letter{a, c}}, {[]int{1}, 2, []api.Letter{c, d, e}}, {[]int{2}, 1, []api.Letter{a, b, d, e}}, {[]int{3, 4}, 0, []api.Letter{a, b, c, d, e}}, {[]int{0, 2, 0}, 2, []api.Letter{b, d, e}}, {[]int{5, 0}, 2, []api.Letter{b, c, e}}, {[]int{-1, 7, 99}, 0, []api.Letter{a, b, c, d, e}}, {[]int{0, 1, 2, 3, 4, 5, 6}, 5, nil}} {
		p := made(t, 5, a, b, c, d, e)
		if n := p.Purge(x.nodes...); n != x.n {
			t.Error(x.nodes, n)
		}
		lie(t, p, x.stay...)
	}
	p := made(t, 2, a, b)
	if p.Take(0); p.Twin(0) != api.OK || p.Purge(6) != 2 || p.Len() != 0 {
		t.Error("the chapter's example")
	}
}

// P6.3: a copy goes its own way.
func TestP6_3Copy(t *testing.T) {
	a, b, c := letter(0, 1, "a"), letter(1, 6, "b"), letter(2, 2, "c")
	p := made(t, 3, a, b)
	q := p.Copy()
	lie(t, q, a, b)
	p.Send(c)
	p.Take(0)
	lie(t, p, b, c)
	lie(t, q, a, b)
	q.Twin(0)
	if e := q.Send(c); e != api.ErrFull {
		t.Error("the room of a copy", e)
	}
	lie(t, q, a, b, a)
	q.Purge(0)
	lie(t, q, b)
	lie(t, p, b, c)
	p = made(t, 3, a, b, c)
	q = p.Copy()
	q.Take(0)
	lie(t, p, a, b, c)
	p.Take(1)
	lie(t, q, b, c)
}

// P6.3: a nil post.
func TestP6_3Nil(t *testing.T) {
	var p *post.Post
	if p.Send(letter(9, 9, "")) != api.ErrNil || p.Twin(0) != api.ErrNil || p.Len() != 0 || p.Purge(1) != 0 || p.Copy() != nil {
		t.Error("a nil post does something")
	}
	if l, ok := p.At(0); l != (api.Letter{}) || ok {
		t.Error(l, ok)
	}
	if l, e := p.Take(0); l != (api.Letter{}) || e != api.ErrNil {
		t.Error(l, e)
	}
}
