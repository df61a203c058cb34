// Package digest implements digests of texts: see shared/doc/01-digest.md.
package digest

import (
	"strconv"
	"strings"
)

const (
	blockSize  = 8 // bytes of a block
	digestSize = 16
	firstState = 1442695040888963407
	maxChain   = 1000
	hexDigits  = "0123456789abcdef"
)

// Sum returns the digest of a text.
func Sum(text string) string {
	state := firstState ^ uint64(len(text))
	next := blocks(text)
	// One block more than fit into the text, because at least one byte 0 is appended.
	for range len(text)/blockSize + 1 {
		state = mix(state ^ number(next()))
	}
	return hex(state)
}

// List returns the digest of a list of texts.
func List(l []string) string {
	return Sum(joined(l))
}

// Chain returns the digest of the digest .. of a text, n times.
func Chain(text string, n int) string {
	for range min(n, maxChain) {
		text = Sum(text)
	}
	return text
}

// Is reports whether a text has the form of a digest.
func Is(text string) bool {
	if len(text) != digestSize {
		return false
	}
	for i := range len(text) {
		if !isHexDigit(text[i]) {
			return false
		}
	}
	return true
}

// blocks returns a function that takes the blocks of a text, one after the other.
func blocks(text string) func() [blockSize]byte {
	rest := text
	return func() [blockSize]byte {
		var block [blockSize]byte
		rest = rest[copy(block[:], rest):]
		return block
	}
}

// number returns the number of a block.
func number(block [blockSize]byte) uint64 {
	x := uint64(0)
	for _, b := range block {
		x = x<<8 | uint64(b)
	}
	return x
}

// mix is a bijection: the factors are odd, and each shift can be undone. That is why texts that differ in one block only
// have different digests.
func mix(x uint64) uint64 {
	x *= 6364136223846793005
	x ^= x >> 31
	x *= 3202034522624059733
	x ^= x >> 30
	return x
}

// hex returns the 16 hexadecimal digits of a number.
func hex(x uint64) string {
	var digits [digestSize]byte
	for i := range len(digits) {
		digits[i] = hexDigits[x>>60]
		x <<= 4
	}
	return string(digits[:])
}

// isHexDigit reports whether a byte is 0 to 9 or a to f.
func isHexDigit(b byte) bool {
	return '0' <= b && b <= '9' || 'a' <= b && b <= 'f'
}

// joined returns the joined text of a list. The lengths make it possible to read the list back, so that different lists
// have different joined texts.
func joined(l []string) string {
	var b strings.Builder
	for _, text := range l {
		b.WriteString(strconv.Itoa(len(text)))
		b.WriteByte(':')
		b.WriteString(text)
	}
	return b.String()
}
