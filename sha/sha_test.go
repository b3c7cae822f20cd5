package sha_test

import (
	"crypto/sha256"
	"encoding/hex"
	"math/rand"
	"strings"
	"testing"

	"redoubt/sha"
)

func someBytes(n int) string {
	b := make([]byte, n)
	rand.New(rand.NewSource(int64(n))).Read(b)
	return string(b)
}

// P3.1: the digest of the bytes of all parts.
func TestP3_1Sum(t *testing.T) {
	if x := sha.Name(sha.Sum("a", "bc")); x != "ba7816bf8f01cfea414140de5dae2223b00361a396177a9cb410ff61f20015ad" {
		t.Error(x)
	}
	const none = "e3b0c44298fc1c149afbf4c8996fb92427ae41e4649b934ca495991b7852b855"
	if sha.Name(sha.Sum()) != none || sha.Name(sha.Sum("")) != none || sha.Name(sha.Sum("", "")) != none {
		t.Error("of no bytes")
	}
	for n := range 400 {
		s := someBytes(n)
		if want := sha256.Sum256([]byte(s)); sha.Sum(s) != string(want[:]) {
			t.Errorf("%d bytes: %x", n, sha.Sum(s))
		}
	}
	s := strings.Repeat("a", 1000000)
	if x := sha.Name(sha.Sum(s)); x != "cdc76e5c9914fb9281a1c7e284d73e67f1809a48a497200e046d39ccc7112cd0" {
		t.Error(x)
	}
}

// P3.2: bytes as digits, and back.
func TestP3_2Digits(t *testing.T) {
	for b := range 256 {
		s := string([]byte{byte(b)})
		name := hex.EncodeToString([]byte(s))
		if sha.Name(s) != name {
			t.Errorf("%x: %s", s, sha.Name(s))
		}
		if h, ok := sha.Hash(name); h != s || !ok {
			t.Errorf("%s: %x, %v", name, h, ok)
		}
	}
	if sha.Name("") != "" || sha.Name("\x01\xaf") != "01af" {
		t.Error("names")
	}
	if h, ok := sha.Hash(""); h != "" || !ok {
		t.Error("of no digits")
	}
	for _, name := range []string{"0", "0A", "A0", "AF", "0g", "g0", "00 ", "0/", "0:", "`0", "000", "00f", "0x00", "\x00\x00", "00\xff0", "é", "00-1"} {
		if h, ok := sha.Hash(name); h != "" || ok {
			t.Errorf("%q: %x, %v", name, h, ok)
		}
	}
	for c := range 256 {
		b := byte(c)
		digit := '0' <= b && b <= '9' || 'a' <= b && b <= 'f'
		for _, name := range []string{string([]byte{b, '0'}), string([]byte{'0', b})} {
			if _, ok := sha.Hash(name); ok != digit {
				t.Errorf("%q: %v", name, ok)
			}
		}
	}
}

// P3.3: how bytes are parted makes no difference; Hash of Name is what it was.
func TestP3_3Parted(t *testing.T) {
	for _, n := range []int{0, 1, 55, 56, 63, 64, 65, 130} {
		s := someBytes(n)
		for i := range n + 1 {
			for j := i; j <= n; j++ {
				if sha.Sum(s[:i], s[i:j], s[j:]) != sha.Sum(s) {
					t.Fatal(n, i, j)
				}
			}
		}
		if h, ok := sha.Hash(sha.Name(s)); h != s || !ok {
			t.Errorf("%d bytes: %x", n, h)
		}
		if len(sha.Sum(s)) != 32 {
			t.Errorf("%d bytes: a digest of %d", n, len(sha.Sum(s)))
		}
	}
	parts := strings.Split(strings.Repeat("x", 200), "")
	if sha.Sum(parts...) != sha.Sum(strings.Repeat("x", 200)) {
		t.Error("byte by byte")
	}
}
