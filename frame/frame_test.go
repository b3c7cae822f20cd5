package frame_test

import (
	"math/rand"
	"slices"
	"strings"
	"testing"

	"redoubt/api"
	"redoubt/crc"
	"redoubt/frame"
	"redoubt/pack"
)

// framed tells a frame by the words of the chapter.
func framed(payload string) string {
	sum := crc.Sum(payload)
	out := pack.Nums(len(payload))
	for i := range 4 {
		out += string([]byte{byte(sum >> (8 * i))})
	}
	return out + payload
}

func sealed(t *testing.T, parts ...string) string {
	t.Helper()
	s, e := frame.Seal(parts...)
	if e != api.OK {
		t.Fatal(e)
	}
	return s
}

func someParts() []string {
	rnd := rand.New(rand.NewSource(1))
	list := []string{"", "ab", "\x00", "", strings.Repeat("x", 63), strings.Repeat("y", 64), strings.Repeat("z", 9000)}
	for range 8 {
		b := make([]byte, rnd.Intn(40))
		rnd.Read(b)
		list = append(list, string(b))
	}
	return list
}

// P4.1: the frames of payloads, one behind the other.
func TestP4_1Seal(t *testing.T) {
	if s := sealed(t, "ab"); s != "\x04\x6d\x48\x83\x9eab" {
		t.Errorf("%x", s)
	}
	if s := sealed(t, ""); s != "\x00\x00\x00\x00\x00" {
		t.Errorf("%x", s)
	}
	if s := sealed(t); s != "" {
		t.Errorf("%x", s)
	}
	all := ""
	for _, part := range someParts() {
		all += framed(part)
	}
	if sealed(t, someParts()...) != all {
		t.Error("frames behind one another")
	}
}

// P4.1: no payload is longer than MaxFrame.
func TestP4_1Long(t *testing.T) {
	most := strings.Repeat("m", api.MaxFrame)
	if s, e := frame.Seal("a", most); e != api.OK || s != framed("a")+framed(most) {
		t.Error(e)
	}
	for _, parts := range [][]string{{most + "m"}, {"a", most + "m"}, {most + "m", "a"}} {
		if s, e := frame.Seal(parts...); e != api.ErrLong || s != "" {
			t.Error(len(s), e)
		}
	}
}

// P4.2: the frame that stands first, and what stands behind it.
func TestP4_2Open(t *testing.T) {
	for _, part := range someParts() {
		for _, behind := range []string{"", "\x00", "\xff\xff\xff", framed("x")} {
			payload, rest, e := frame.Open(framed(part) + behind)
			if payload != part || rest != behind || e != api.OK {
				t.Errorf("%q: %q, %q, %d", part, payload, rest, e)
			}
		}
	}
	most := strings.Repeat("m", api.MaxFrame)
	if payload, rest, e := frame.Open(framed(most) + "r"); payload != most || rest != "r" || e != api.OK {
		t.Error("the longest one", e)
	}
}

// P4.2: what begins with no frame.
func TestP4_2None(t *testing.T) {
	long := strings.Repeat("m", api.MaxFrame+1)
	bad := []string{"", "\x04", "\x04\x6d\x48\x83\x9ea", "\x04\x6d\x48\x83\x9fab", "\x05\x6d\x48\x83\x9eab", "\x00\x00\x00\x00", "\x00\x00\x00\x00\x01", "\x80\x00\x00\x00\x00\x00", "\x01\x00\x00\x00\x00", "\x84\x00\x6d\x48\x83\x9eab", "\x04\x9e\x83\x48\x6dab", framed(long), pack.Nums(1<<63-1) + "\x00\x00\x00\x00", pack.Nums(1<<63-3) + "\x00\x00\x00\x00", pack.Nums(-1<<63) + "\x00\x00\x00\x00"}
	for _, s := range bad {
		if payload, rest, e := frame.Open(s); payload != "" || rest != "" || e != api.ErrForm {
			t.Errorf("%.20q: %q, %q, %d", s, payload, rest, e)
		}
	}
}

// P4.3: all frames with which bytes begin, and where they end.
func TestP4_3Scan(t *testing.T) {
	all := sealed(t, someParts()...)
	for _, behind := range []string{"", "\x04", "\xff", "\x04\x6d\x48\x83\x9ea", "\x02\x00\x00\x00\x00" + framed("x")} {
		list, end := frame.Scan(all + behind)
		if !slices.Equal(list, someParts()) || end != len(all) {
			t.Errorf("%x: %d payloads, %d", behind, len(list), end)
		}
	}
	for _, s := range []string{"", "\x04", "x" + framed("a")} {
		if list, end := frame.Scan(s); len(list) != 0 || end != 0 {
			t.Errorf("%x: %q, %d", s, list, end)
		}
	}
	if list, end := frame.Scan(framed("")); len(list) != 1 || list[0] != "" || end != 5 {
		t.Error(list, end)
	}
}

// P4.4: of frames that are cut off just those are told that are all there.
func TestP4_4Cut(t *testing.T) {
	parts := []string{"ab", "", "c", strings.Repeat("d", 70), "", "e"}
	all := sealed(t, parts...)
	for n := range len(all) + 1 {
		want, end := 0, 0
		for want < len(parts) && end+len(framed(parts[want])) <= n {
			end += len(framed(parts[want]))
			want++
		}
		if list, found := frame.Scan(all[:n]); !slices.Equal(list, parts[:want]) || found != end {
			t.Errorf("of %d bytes: %d payloads, %d", n, len(list), found)
		}
	}
}

// P4.4: a frame of which a bit has turned, behind its length, is none.
func TestP4_4Turned(t *testing.T) {
	for _, part := range []string{"", "a", "ab", strings.Repeat("d", 70)} {
		s := framed(part)
		head := len(pack.Nums(len(part)))
		for bit := 8 * head; bit < 8*len(s); bit++ {
			b := []byte(s)
			b[bit/8] ^= 1 << (bit % 8)
			for _, behind := range []string{"", framed("x")} {
				if payload, rest, e := frame.Open(string(b) + behind); e != api.ErrForm || payload != "" || rest != "" {
					t.Errorf("%q, bit %d: %d", part, bit, e)
				}
				if list, end := frame.Scan(framed("y") + string(b) + behind); len(list) != 1 || end != len(framed("y")) {
					t.Errorf("%q, bit %d: %q, %d", part, bit, list, end)
				}
			}
		}
	}
}
