package sheet_test

import (
	"math/rand"
	"slices"
	"strings"
	"testing"

	"redoubt/api"
	"redoubt/carve"
	"redoubt/pack"
	"redoubt/sha"
	"redoubt/sheet"
)

func someBytes(n int) string {
	b := make([]byte, n)
	rand.New(rand.NewSource(int64(n))).Read(b)
	return string(b)
}

func made(t *testing.T, data string) api.Sheet {
	t.Helper()
	s, e := sheet.Make(data)
	if e != api.OK {
		t.Fatal(e)
	}
	return s
}

func same(a, b api.Sheet) bool {
	return a.Size == b.Size && slices.Equal(a.Hashes, b.Hashes)
}

func hash(n int) string { return sha.Sum(someBytes(n)) }

// wrong sheets, each in one way.
func wrong() []api.Sheet {
	return []api.Sheet{{Size: -1}, {Size: 1}, {Size: 0, Hashes: []string{hash(1)}}, {Size: 64, Hashes: []string{hash(1), hash(2)}}, {Size: 65, Hashes: []string{hash(1)}}, {Size: 513, Hashes: []string{hash(1), hash(2), hash(3), hash(4), hash(5), hash(6), hash(7), hash(8), hash(9)}}, {Size: 1, Hashes: []string{""}}, {Size: 1, Hashes: []string{hash(1)[:31]}}, {Size: 1, Hashes: []string{hash(1) + "x"}}, {Size: 65, Hashes: []string{hash(1), "x"}}, {Size: -64, Hashes: []string{hash(1)}}, {Size: 1 << 40}, {Size: -1 << 63}}
}

// P8.1: what a backup is made of.
func TestP8_1Make(t *testing.T) {
	if s := made(t, ""); s.Size != 0 || len(s.Hashes) != 0 {
		t.Error(s)
	}
	if s := made(t, "abc"); s.Size != 3 || !slices.Equal(s.Hashes, []string{sha.Sum("abc")}) {
		t.Error(s)
	}
	for _, n := range []int{1, 63, 64, 65, 128, 200, 511, 512} {
		data := someBytes(n)
		var hashes []string
		for _, chunk := range carve.Cut(data) {
			hashes = append(hashes, sha.Sum(chunk))
		}
		if s := made(t, data); !same(s, api.Sheet{Size: n, Hashes: hashes}) {
			t.Errorf("%d bytes", n)
		}
	}
	for _, n := range []int{513, 600, 5000} {
		if s, e := sheet.Make(someBytes(n)); e != api.ErrLong || !same(s, api.Sheet{}) {
			t.Error(n, e)
		}
	}
}

// P8.1: which sheets are right.
func TestP8_1Check(t *testing.T) {
	for _, n := range []int{0, 1, 64, 65, 512} {
		if e := sheet.Check(made(t, someBytes(n))); e != api.OK {
			t.Error(n, e)
		}
	}
	for _, s := range wrong() {
		if e := sheet.Check(s); e != api.ErrForm {
			t.Error(s.Size, len(s.Hashes), e)
		}
	}
}

// P8.2: bytes out of chunks.
func TestP8_2Build(t *testing.T) {
	abc := made(t, "abc")
	for _, x := range []struct {
		s      api.Sheet
		chunks []string
		data   string
		e      api.Errno
	}{
		{api.Sheet{}, nil, "", api.OK},
		{abc, []string{"abc"}, "abc", api.OK},
		{abc, []string{"abd"}, "", api.ErrCorrupt},
		{abc, nil, "", api.ErrArg},
		{abc, []string{"abc", "abc"}, "", api.ErrArg},
		{api.Sheet{}, []string{""}, "", api.ErrArg},
		{api.Sheet{Size: 2, Hashes: abc.Hashes}, []string{"abc"}, "", api.ErrCorrupt},
		{api.Sheet{Size: 4, Hashes: abc.Hashes}, []string{"abc"}, "", api.ErrCorrupt},
		{api.Sheet{Size: 65, Hashes: []string{hash(1), hash(64)}}, []string{someBytes(1), someBytes(64)}, someBytes(1) + someBytes(64), api.OK},
		{api.Sheet{Size: 65, Hashes: []string{hash(1), hash(64)}}, []string{someBytes(64), someBytes(1)}, "", api.ErrCorrupt},
		{api.Sheet{Size: 65, Hashes: []string{hash(64), hash(2)}}, []string{someBytes(64), someBytes(2)}, "", api.ErrCorrupt},
	} {
		if data, e := sheet.Build(x.s, x.chunks...); data != x.data || e != x.e {
			t.Errorf("%d, %.20q: %.20q, %d", x.s.Size, x.chunks, data, e)
		}
	}
	for _, s := range wrong() {
		if data, e := sheet.Build(s); data != "" || e != api.ErrForm {
			t.Error(s.Size, len(s.Hashes), e)
		}
	}
}

// P8.3: a sheet as bytes.
func TestP8_3Pack(t *testing.T) {
	if s := sheet.Pack(made(t, "")); s != "\x00\x00" {
		t.Errorf("%x", s)
	}
	two := made(t, someBytes(65))
	if s := sheet.Pack(two); s != pack.Nums(65, 2)+pack.Text(two.Hashes[0], two.Hashes[1]) {
		t.Errorf("%x", s)
	}
	if s := sheet.Pack(api.Sheet{Size: -5, Hashes: []string{"", "x"}}); s != pack.Nums(-5, 2)+pack.Text("", "x") {
		t.Errorf("%x", s)
	}
}

// P8.3: a right sheet of bytes, or none.
func TestP8_3Parse(t *testing.T) {
	for _, n := range []int{0, 1, 64, 65, 512} {
		s := made(t, someBytes(n))
		text := sheet.Pack(s)
		if got, e := sheet.Parse(text); e != api.OK || !same(got, s) {
			t.Error(n, e)
		}
		for cut := range text {
			if got, e := sheet.Parse(text[:cut]); e != api.ErrForm || !same(got, api.Sheet{}) {
				t.Error(n, cut, e)
			}
		}
		if got, e := sheet.Parse(text + "\x00"); e != api.ErrForm || !same(got, api.Sheet{}) {
			t.Error(n, e)
		}
	}
	for _, s := range wrong() {
		if got, e := sheet.Parse(sheet.Pack(s)); e != api.ErrForm || !same(got, api.Sheet{}) {
			t.Error(s.Size, len(s.Hashes), e)
		}
	}
	for _, text := range []string{"", "\x00", "\x80\x00\x00", "\x00\x80\x00", "\x00\x01", "\x02\x02" + "\x41" + hash(1), pack.Nums(1, 1<<62), "\x02" + pack.Nums(-1)} {
		if got, e := sheet.Parse(text); e != api.ErrForm || !same(got, api.Sheet{}) {
			t.Errorf("%x: %d", text, e)
		}
	}
}

// P8.4: what was made of bytes builds them, and no other chunks build anything.
func TestP8_4Built(t *testing.T) {
	for _, n := range []int{0, 1, 63, 64, 65, 128, 300, 512} {
		data := someBytes(n)
		s, chunks := made(t, data), carve.Cut(data)
		if got, e := sheet.Build(s, chunks...); got != data || e != api.OK {
			t.Error(n, e)
		}
		for i := range chunks {
			other := slices.Clone(chunks)
			b := []byte(other[i])
			b[len(b)/2] ^= 4
			for _, bad := range []string{string(b), "", chunks[i] + "x", strings.Repeat("x", 64)} {
				other[i] = bad
				if got, e := sheet.Build(s, other...); got != "" || e != api.ErrCorrupt {
					t.Error(n, i, e)
				}
			}
		}
	}
}

// Rule 5: what is handed in stays, and what is answered is new memory.
func TestRule5Memory(t *testing.T) {
	s := made(t, someBytes(130))
	text := sheet.Pack(s)
	a, _ := sheet.Parse(text)
	a.Hashes[0] = "changed"
	b, _ := sheet.Parse(text)
	chunks := carve.Cut(someBytes(130))
	sheet.Build(s, chunks...)
	if !same(b, s) || !slices.Equal(chunks, carve.Cut(someBytes(130))) {
		t.Error("something changed")
	}
}
