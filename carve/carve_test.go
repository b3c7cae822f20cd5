package carve_test

import (
	"math/rand"
	"slices"
	"strings"
	"testing"

	"redoubt/carve"
)

func someBytes(n int) string {
	b := make([]byte, n)
	rand.New(rand.NewSource(int64(n))).Read(b)
	return string(b)
}

// P7.1: how many chunks bytes have.
func TestP7_1Count(t *testing.T) {
	for n, want := range map[int]int{0: 0, 1: 1, 63: 1, 64: 1, 65: 2, 127: 2, 128: 2, 129: 3, 512: 8, -1: 0, -64: 0, -1 << 63: 0, 1<<63 - 1: 1 << 57, 1<<63 - 64: 1<<57 - 1} {
		if got := carve.Count(n); got != want {
			t.Errorf("%d: %d, not %d", n, got, want)
		}
	}
}

// P7.1: the chunks, in order.
func TestP7_1Cut(t *testing.T) {
	if len(carve.Cut("")) != 0 {
		t.Error("no bytes have chunks")
	}
	for n := range 400 {
		data := someBytes(n)
		chunks := carve.Cut(data)
		if len(chunks) != carve.Count(n) {
			t.Errorf("%d bytes: %d chunks", n, len(chunks))
		}
		for i, chunk := range chunks {
			if chunk != data[64*i:min(64*i+64, n)] {
				t.Errorf("%d bytes: chunk %d", n, i)
			}
		}
	}
}

// P7.1: parts, whatever they are, one behind the other.
func TestP7_1Join(t *testing.T) {
	for _, x := range []struct {
		parts []string
		all   string
	}{{nil, ""}, {[]string{""}, ""}, {[]string{"a", "", "bc"}, "abc"}, {[]string{"\xff", someBytes(100), "\x00"}, "\xff" + someBytes(100) + "\x00"}} {
		if got := carve.Join(x.parts...); got != x.all {
			t.Errorf("%q: %q", x.parts, got)
		}
	}
}

// P7.1: whether parts are the chunks of their bytes.
func TestP7_1Fits(t *testing.T) {
	full := strings.Repeat("f", 64)
	for _, x := range []struct {
		parts []string
		fits  bool
	}{{nil, true}, {[]string{""}, false}, {[]string{"a"}, true}, {[]string{"a", "b"}, false}, {[]string{full}, true}, {[]string{full + "f"}, false}, {[]string{full, "a"}, true}, {[]string{full, ""}, false}, {[]string{"", full}, false}, {[]string{full, full}, true}, {[]string{full, full[1:], full}, false}, {[]string{full, full, "a"}, true}, {[]string{full, "a", full}, false}, {[]string{full, full + "f"}, false}, {[]string{full + "f", full}, false}, {[]string{full + full}, false}} {
		if got := carve.Fits(x.parts...); got != x.fits {
			t.Errorf("%.80q: %v", x.parts, got)
		}
		if got := slices.Equal(carve.Cut(carve.Join(x.parts...)), x.parts); got != x.fits {
			t.Errorf("%.80q: cut of join %v", x.parts, got)
		}
	}
}

// P7.2: there and back; what begins alike has the same first chunks.
func TestP7_2ThereAndBack(t *testing.T) {
	for n := range 300 {
		data := someBytes(n)
		chunks := carve.Cut(data)
		if carve.Join(chunks...) != data || !carve.Fits(chunks...) {
			t.Errorf("%d bytes", n)
		}
		if !slices.Equal(carve.Cut(carve.Join(chunks...)), chunks) {
			t.Errorf("%d bytes: cut of join", n)
		}
		longer := carve.Cut(data + "more")
		for i := range n / 64 {
			if longer[i] != chunks[i] {
				t.Errorf("%d bytes: chunk %d", n, i)
			}
		}
	}
}
