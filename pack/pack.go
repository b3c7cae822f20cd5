// Package pack is layer 1: numbers and texts as bytes, and back.
package pack

import "strings"

// more is the bit of a byte by which another group follows.
const more = 128

// maxGroups is how many groups of seven bits 64 bits may take.
const maxGroups = 10

// Nums answers the bytes of numbers, one behind the other.
func Nums(vals ...int) string {
	out := make([]byte, 0, 2*len(vals))
	for _, n := range vals {
		out = appendNum(out, n)
	}
	return string(out)
}

// Text answers the bytes of texts, one behind the other.
func Text(parts ...string) string {
	var out strings.Builder
	for _, part := range parts {
		out.Write(appendNum(nil, len(part)))
		out.WriteString(part)
	}
	return out.String()
}

func appendNum(out []byte, n int) []byte {
	z := folded(n)
	for z >= more {
		out = append(out, byte(z%more)|more)
		z /= more
	}
	return append(out, byte(z))
}

// folded lays the numbers below 0 between the others, so that small ones of both kinds are short.
func folded(n int) uint64 {
	if n < 0 {
		return 2*uint64(-(n+1)) + 1
	}
	return 2 * uint64(n)
}

func unfolded(z uint64) int {
	if z%2 == 1 {
		return -int(z/2) - 1
	}
	return int(z / 2)
}

// number answers the number with which s begins, and how many bytes it takes: 0, if s begins with none.
func number(s string) (n, used int) {
	z := uint64(0)
	for i := 0; i < len(s) && i < maxGroups; i++ {
		group := s[i] % more
		if i == maxGroups-1 && s[i] > 1 {
			return 0, 0 // more than 64 bits
		}
		z |= uint64(group) << (7 * i)
		if s[i] >= more {
			continue
		}
		if group == 0 && i > 0 {
			return 0, 0 // a group too many: it would be written shorter
		}
		return unfolded(z), i + 1
	}
	return 0, 0
}

// Reader reads bytes from the front, as long as they are good.
type Reader struct {
	rest   string
	spoilt bool
}

// Read answers a reader of s, at its front.
func Read(s string) *Reader {
	return &Reader{rest: s}
}

// whenGood does step with the bytes that are left, if all was good so far. What it can't read spoils the reader, which stays where it is.
func (r *Reader) whenGood(step func(rest string) (used int, ok bool)) {
	if !r.Good() {
		return
	}
	used, ok := step(r.rest)
	if !ok {
		r.spoilt = true
		return
	}
	r.rest = r.rest[used:]
}

// Num reads the next number.
func (r *Reader) Num() int {
	n := 0
	r.whenGood(func(rest string) (int, bool) {
		found, used := number(rest)
		n = found
		return used, used > 0
	})
	return n
}

// Text reads the next text.
func (r *Reader) Text() string {
	text := ""
	r.whenGood(func(rest string) (int, bool) {
		n, used := number(rest)
		if used == 0 || n < 0 || n > len(rest)-used {
			return 0, false
		}
		text = rest[used : used+n]
		return used + n, true
	})
	return text
}

// Count reads how many things follow: of so many each one has a byte at least.
func (r *Reader) Count() int {
	n := r.Num()
	if n < 0 || n > r.Left() {
		r.Spoil()
		return 0
	}
	return n
}

// Left answers how many bytes aren't read.
func (r *Reader) Left() int {
	if r == nil {
		return 0
	}
	return len(r.rest)
}

// Spoil says that what was read may not be.
func (r *Reader) Spoil() {
	if r != nil {
		r.spoilt = true
	}
}

// Good answers whether all was right so far.
func (r *Reader) Good() bool {
	return r != nil && !r.spoilt
}

// Done answers whether all was right, and all is read.
func (r *Reader) Done() bool {
	return r.Good() && r.Left() == 0
}
