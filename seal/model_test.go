package seal

import (
	"encoding/binary"
	"fmt"
	"math"
	"slices"
	"strconv"
	"strings"

	"pandect/api"
	"pandect/digest"
)

// The model comes to the same keys and seals in another way than package seal: it writes down all places of all chains,
// joins the keys level by level, and climbs from a key to the root by the binary digits of its index.

// places are the places of the chains of a one-time key, from the starts to the ends.
type places [18][16]string

// modelList returns the digest of a list.
func modelList(l ...string) string {
	var joined strings.Builder
	for _, text := range l {
		fmt.Fprintf(&joined, "%d:%s", len(text), text)
	}
	return digest.Sum(joined.String())
}

func modelPlaces(secret string, i int) places {
	var p places
	for k := range p {
		at := modelList(secret, fmt.Sprint(i), fmt.Sprint(k))
		for n := range p[k] {
			p[k][n] = at
			at = digest.Sum(at)
		}
	}
	return p
}

// key returns the one-time key of places.
func (p places) key() string {
	var ends []string
	for _, chain := range p {
		ends = append(ends, chain[15])
	}
	return modelList(ends...)
}

// owner is somebody who has a secret, with a tree of keys: the roots of single keys, of pairs, and so on up to the root.
type owner struct {
	secret string
	keys   []places
	levels [][]string
}

func newOwner(secret string, height int) owner {
	o := owner{secret: secret}
	var level []string
	for i := range 1 << height {
		o.keys = append(o.keys, modelPlaces(secret, i))
		level = append(level, modelList("leaf", o.keys[i].key()))
	}
	o.levels = append(o.levels, level)
	for len(level) > 1 {
		var above []string
		for pair := range slices.Chunk(level, 2) {
			above = append(above, modelList("node", pair[0], pair[1]))
		}
		level = above
		o.levels = append(o.levels, level)
	}
	return o
}

func (o owner) public() string { return o.levels[len(o.levels)-1][0] }

func (o owner) seal(i int, message string) api.Seal {
	s := api.Seal{Index: i}
	for k, digit := range modelDigits(message) {
		s.Sig = append(s.Sig, o.keys[i][k][digit])
	}
	for l, level := range o.levels[:len(o.levels)-1] {
		s.Path = append(s.Path, level[i>>l^1])
	}
	return s
}

// modelDigits reads the digits of a message from its digest as a number, from the last one to the first.
func modelDigits(message string) [18]int {
	sum, err := strconv.ParseUint(digest.Sum(message), 16, 64)
	if err != nil {
		panic(err)
	}
	var l [18]int
	checksum := 240
	for k := 15; k >= 0; k-- {
		l[k] = int(sum & 15)
		checksum -= l[k]
		sum >>= 4
	}
	l[16], l[17] = checksum>>4, checksum&15
	return l
}

// computed returns the public key that is computed from a seal, whatever the form of its parts is. Elements that belong
// to no digit stand for themselves.
func computed(message string, s api.Seal) string {
	var ends []string
	for k, at := range s.Sig {
		if k < 18 {
			at = digest.Chain(at, 15-modelDigits(message)[k])
		}
		ends = append(ends, at)
	}
	root := modelList("leaf", modelList(ends...))
	for level, beside := range s.Path {
		if s.Index>>level&1 == 0 {
			root = modelList("node", root, beside)
		} else {
			root = modelList("node", beside, root)
		}
	}
	return root
}

func areDigests(l []string) bool {
	for _, text := range l {
		if len(text) != 16 || strings.Trim(text, "0123456789abcdef") != "" {
			return false
		}
	}
	return true
}

func modelVerify(public, message string, s api.Seal) bool {
	if len(s.Sig) != 18 || len(s.Path) > 8 || !areDigests(s.Sig) || !areDigests(s.Path) {
		return false
	}
	return s.Index >= 0 && s.Index < 1<<len(s.Path) && computed(message, s) == public
}

// messageOf returns a message of 8 bytes that has a digest. Its second block has only bytes 0, so that the state before
// each block is known if that after it is.
func messageOf(sum uint64) string {
	unmixed := func(x uint64) uint64 {
		x ^= x>>30 ^ x>>60
		x *= 10706317138985569277 // times 3202034522624059733, this is 1
		x ^= x>>31 ^ x>>62
		return x * 13877824140714322085 // times 6364136223846793005, this is 1
	}
	first := uint64(1442695040888963407) ^ 8
	return string(binary.BigEndian.AppendUint64(nil, first^unmixed(unmixed(sum))))
}

// secrets returns secrets of all kinds.
func secrets() []string {
	return []string{"", "s", "s1", "member 7", "ä:\x00\xff", strings.Repeat("x", 1000)}
}

// messages returns messages of all kinds: the checksum of "128" has 0 as its second digit, and "155" a digest that
// begins with 0; of the last ones, all digits of the digest are equal.
func messages() []string {
	return []string{
		"", "a", "tax is 5", "\x00", "ä", "128", "155", strings.Repeat("law ", 5000),
		messageOf(0), messageOf(math.MaxUint64), messageOf(0x7777777777777777),
	}
}

// noDigests returns texts that look like digests, but are none.
func noDigests() []string {
	return []string{
		"", "x", "0123456789abcde", "0123456789abcdef0", "0123456789abcdeF", "0123456789abcdeg",
		" 123456789abcdef", "0123456789abcde\n", "0x23456789abcdef", strings.Repeat("\x00", 16),
	}
}

// madeUp returns n digests that are those of no key.
func madeUp(n int) []string {
	l := make([]string, n)
	for i := range l {
		l[i] = digest.Sum("made up " + strconv.Itoa(i))
	}
	return l
}

func equal(a, b api.Seal) bool {
	return a.Index == b.Index && slices.Equal(a.Sig, b.Sig) && slices.Equal(a.Path, b.Path)
}

func clone(s api.Seal) api.Seal {
	return api.Seal{Index: s.Index, Sig: slices.Clone(s.Sig), Path: slices.Clone(s.Path)}
}
