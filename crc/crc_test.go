package crc_test

import (
	"math/rand"
	"testing"

	"redoubt/crc"
)

// bitwise tells the sum by the words of the chapter, bit by bit.
func bitwise(register uint32, s string) uint32 {
	for i := range len(s) {
		register ^= uint32(s[i])
		for range 8 {
			fell := register & 1
			register >>= 1
			if fell == 1 {
				register ^= 0xEDB88320
			}
		}
	}
	return register
}

func someBytes(rnd *rand.Rand, n int) string {
	b := make([]byte, n)
	rnd.Read(b)
	return string(b)
}

// P2.1: the sum of all parts' bytes, one behind the other.
func TestP2_1Sum(t *testing.T) {
	for _, parts := range [][]string{{"123456789"}, {"1234", "", "56789"}, {"", "1", "2345678", "9", ""}} {
		if s := crc.Sum(parts...); s != 0xCBF43926 {
			t.Errorf("%q: %x", parts, s)
		}
	}
	if crc.Sum() != 0 || crc.Sum("") != 0 || crc.Sum("", "") != 0 {
		t.Error("of no bytes")
	}
	if s := crc.Sum("\x00"); s != 0xD202EF8D {
		t.Errorf("%x", s)
	}
	for b := range 256 {
		if s := string([]byte{byte(b)}); crc.Sum(s) != ^bitwise(^uint32(0), s) {
			t.Errorf("byte %d: %x", b, crc.Sum(s))
		}
	}
	rnd := rand.New(rand.NewSource(1))
	for n := range 300 {
		if s := someBytes(rnd, n); crc.Sum(s) != ^bitwise(^uint32(0), s) {
			t.Errorf("%d bytes: %x", n, crc.Sum(s))
		}
	}
}

// P2.2: a sum goes on, also one that no bytes were told of.
func TestP2_2More(t *testing.T) {
	rnd := rand.New(rand.NewSource(2))
	for range 300 {
		a, b, c, from := someBytes(rnd, rnd.Intn(20)), someBytes(rnd, rnd.Intn(20)), someBytes(rnd, rnd.Intn(20)), rnd.Uint32()
		if crc.More(from, a, b) != ^bitwise(^from, a+b) {
			t.Errorf("from %x: %x", from, crc.More(from, a, b))
		}
		if crc.More(crc.Sum(a), b, c) != crc.Sum(a, b, c) {
			t.Errorf("%q, %q, %q: %x", a, b, c, crc.More(crc.Sum(a), b, c))
		}
	}
	if crc.More(0) != 0 || crc.More(7) != 7 || crc.More(7, "", "") != 7 || crc.More(^uint32(0)) != ^uint32(0) {
		t.Error("of no bytes")
	}
}

// P2.3: how bytes are parted makes no difference.
func TestP2_3Parted(t *testing.T) {
	s := someBytes(rand.New(rand.NewSource(3)), 40)
	for i := range len(s) + 1 {
		for j := i; j <= len(s); j++ {
			if crc.Sum(s[:i], s[i:j], s[j:]) != crc.Sum(s) {
				t.Fatal(i, j)
			}
		}
	}
}

// P2.3: what differs within 32 bits side by side has unlike sums.
func TestP2_3Turned(t *testing.T) {
	rnd := rand.New(rand.NewSource(4))
	s := someBytes(rnd, 30)
	for at := range 8*len(s) - 31 {
		for range 40 {
			mask := uint64(rnd.Uint32())
			if mask == 0 {
				continue
			}
			b := []byte(s)
			for bit := range 32 {
				if mask>>bit&1 == 1 {
					b[(at+bit)/8] ^= 1 << ((at + bit) % 8)
				}
			}
			if crc.Sum(string(b)) == crc.Sum(s) {
				t.Fatalf("bits %x from %d on", mask, at)
			}
		}
	}
}
