package pack_test

import (
	"math/big"
	"math/rand"
	"testing"

	"redoubt/pack"
)

// written tells a number's bytes by the words of the chapter, with numbers of any length.
func written(n int) string {
	z := new(big.Int).Mul(big.NewInt(int64(n)), big.NewInt(2))
	if n < 0 {
		z.Neg(z)
		z.Sub(z, big.NewInt(1))
	}
	out := []byte{}
	for {
		group := new(big.Int)
		z.DivMod(z, big.NewInt(128), group)
		b := byte(group.Int64())
		if z.Sign() > 0 {
			out = append(out, b+128)
			continue
		}
		return string(append(out, b))
	}
}

func someNumbers() []int {
	list := []int{0, 1, -1, 63, 64, 65, -63, -64, -65, 1<<63 - 1, -1 << 63, 1<<63 - 2, -1<<63 + 1}
	for i := 0; i < 63; i++ {
		list = append(list, 1<<i, 1<<i-1, -(1 << i), -(1<<i)-1)
	}
	rnd := rand.New(rand.NewSource(1))
	for range 200 {
		list = append(list, int(rnd.Uint64()>>rnd.Intn(64)), -int(rnd.Uint64()>>(1+rnd.Intn(63))))
	}
	return list
}

// P1.1: numbers and texts, one behind the other.
func TestP1_1Written(t *testing.T) {
	if s := pack.Nums(0, -1, 1, 64); s != "\x00\x01\x02\x80\x01" {
		t.Errorf("Nums: %x", s)
	}
	if s := pack.Text("ab", ""); s != "\x04ab\x00" {
		t.Errorf("Text: %x", s)
	}
	if pack.Nums() != "" || pack.Text() != "" {
		t.Error("of none there are bytes")
	}
	all := ""
	for _, n := range someNumbers() {
		if pack.Nums(n) != written(n) {
			t.Errorf("%d: %x, not %x", n, pack.Nums(n), written(n))
		}
		all += written(n)
	}
	if pack.Nums(someNumbers()...) != all {
		t.Error("numbers behind one another")
	}
	long := string(make([]byte, 300))
	if pack.Text("\xff\x00", long, "x") != "\x04\xff\x00"+written(300)+long+"\x02x" {
		t.Error("texts behind one another")
	}
}

// P1.2: a reader reads from the front, numbers and texts.
func TestP1_2Read(t *testing.T) {
	r := pack.Read(pack.Nums(5, -7) + pack.Text("abc", "") + pack.Nums(1<<62))
	if !r.Good() {
		t.Fatal("a new reader isn't good")
	}
	if a, b, c, d, e := r.Num(), r.Num(), r.Text(), r.Text(), r.Num(); a != 5 || b != -7 || c != "abc" || d != "" || e != 1<<62 {
		t.Error(a, b, c, d, e)
	}
	if !r.Good() || !r.Done() {
		t.Error("not done")
	}
}

// P1.2: what is no number spoils the reader for ever, and nothing goes on.
func TestP1_2NoNumber(t *testing.T) {
	for _, s := range []string{"", "\x80", "\x80\x00", "\xff\x00", "\x80\x80\x00", "\xff\xff\xff\xff\xff\xff\xff\xff\xff\x02", "\xff\xff\xff\xff\xff\xff\xff\xff\xff\x03", "\xff\xff\xff\xff\xff\xff\xff\xff\xff\xff", "\x80\x80\x80\x80\x80\x80\x80\x80\x80\x00", "\xff\xff\xff\xff\xff\xff\xff\xff\xff\x81\x00", "\xff\xff\xff\xff\xff\xff\xff\xff\xff\x81\x01"} {
		for _, behind := range []string{"", "\x02"} {
			if s == "" && behind != "" || s == "\x80" && behind != "" {
				continue
			}
			r := pack.Read(s + behind)
			if n := r.Num(); n != 0 || r.Good() || r.Done() {
				t.Errorf("%x: %d, good %v", s, n, r.Good())
			}
			left := r.Left()
			if r.Num() != 0 || r.Text() != "" || r.Count() != 0 || r.Good() || r.Left() != left {
				t.Errorf("%x: it goes on", s)
			}
		}
	}
	if r := pack.Read("\xff\xff\xff\xff\xff\xff\xff\xff\xff\x01"); r.Num() != -1<<63 || !r.Done() {
		t.Error("the least number isn't read")
	}
}

// P1.2: what is no text likewise.
func TestP1_2NoText(t *testing.T) {
	for _, s := range []string{"", "\x06ab", "\x02", "\x01a", "\x80\x00", "\x80", pack.Nums(1<<63 - 1), pack.Nums(1<<62) + "abc", pack.Nums(-1 << 63)} {
		r := pack.Read(s)
		if x := r.Text(); x != "" || r.Good() {
			t.Errorf("%x: %q, good %v", s, x, r.Good())
		}
		if r.Num() != 0 || r.Text() != "" || r.Good() {
			t.Errorf("%x: it goes on", s)
		}
	}
	if r := pack.Read("\x04abc"); r.Text() != "ab" || r.Left() != 1 || !r.Good() {
		t.Error("a text and more")
	}
}

// P1.2: a count is at most what is left.
func TestP1_2Count(t *testing.T) {
	for _, c := range []struct {
		s    string
		n    int
		good bool
	}{{"\x00", 0, true}, {"\x04ab", 2, true}, {"\x04abc", 2, true}, {"\x04a", 0, false}, {"\x02", 0, false}, {"\x01abc", 0, false}, {"", 0, false}, {"\x80\x00ab", 0, false}, {pack.Nums(1<<63-1) + "a", 0, false}, {pack.Nums(-1<<63) + "a", 0, false}} {
		r := pack.Read(c.s)
		if n := r.Count(); n != c.n || r.Good() != c.good {
			t.Errorf("%x: %d, good %v", c.s, n, r.Good())
		}
		if !c.good && (r.Count() != 0 || r.Num() != 0 || r.Text() != "" || r.Good()) {
			t.Errorf("%x: it goes on", c.s)
		}
	}
	r := pack.Read("\x04ab")
	if r.Count() != 2 || r.Left() != 2 {
		t.Error("only the number is read")
	}
}

// P1.3: Left, Spoil, Good, Done.
func TestP1_3State(t *testing.T) {
	r := pack.Read("\x02\x04ab")
	if r.Left() != 4 || !r.Good() || r.Done() {
		t.Error("at the front")
	}
	r.Num()
	if r.Left() != 3 || !r.Good() || r.Done() {
		t.Error("behind the number")
	}
	r.Text()
	if r.Left() != 0 || !r.Good() || !r.Done() {
		t.Error("at the end")
	}
	r.Spoil()
	if r.Left() != 0 || r.Good() || r.Done() {
		t.Error("spoilt")
	}
	r = pack.Read("\x02")
	r.Spoil()
	if r.Num() != 0 || r.Left() != 1 || r.Good() {
		t.Error("a spoilt reader reads")
	}
	if !pack.Read("").Done() {
		t.Error("no bytes are all read")
	}
}

// P1.4: a nil reader.
func TestP1_4Nil(t *testing.T) {
	var r *pack.Reader
	r.Spoil()
	if r.Num() != 0 || r.Text() != "" || r.Count() != 0 || r.Left() != 0 || r.Good() || r.Done() {
		t.Error("a nil reader answers something")
	}
}

// P1.5: what was written is read as it was, whatever stands behind it.
func TestP1_5ThereAndBack(t *testing.T) {
	for _, n := range someNumbers() {
		for _, behind := range []string{"", "\x00", "\xff\xff"} {
			r := pack.Read(pack.Nums(n) + behind)
			if m := r.Num(); m != n || r.Left() != len(behind) || !r.Good() {
				t.Errorf("%d: %d", n, m)
			}
		}
	}
	for _, x := range []string{"", "a", "\x80\x00", string(make([]byte, 1000))} {
		for _, behind := range []string{"", "\x00", "\xff\xff"} {
			r := pack.Read(pack.Text(x) + behind)
			if y := r.Text(); y != x || r.Left() != len(behind) || !r.Good() {
				t.Errorf("%q: %q", x, y)
			}
		}
	}
}

// P1.5: bytes are just what is read from them, written anew: of all bytes up to three, and of any longer ones.
func TestP1_5OneWay(t *testing.T) {
	check := func(s string) {
		r := pack.Read(s)
		n := r.Num()
		if r.Good() && s[:len(s)-r.Left()] != written(n) {
			t.Fatalf("%x is read as %d", s, n)
		}
		r = pack.Read(s)
		x := r.Text()
		if r.Good() && s[:len(s)-r.Left()] != written(len(x))+x {
			t.Fatalf("%x is read as %q", s, x)
		}
	}
	for i := range 1 << 24 {
		if i < 1<<8 {
			check(string([]byte{byte(i)}))
		}
		if i < 1<<16 {
			check(string([]byte{byte(i), byte(i >> 8)}))
		}
		if i%7 == 0 {
			check(string([]byte{byte(i), byte(i >> 8), byte(i >> 16)}))
		}
	}
	rnd := rand.New(rand.NewSource(2))
	for range 20000 {
		b := make([]byte, rnd.Intn(14))
		for i := range b {
			b[i] = byte(rnd.Intn(256)) | byte(rnd.Intn(2)*128)
		}
		check(string(b))
	}
}
