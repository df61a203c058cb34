package digest

import (
	"fmt"
	"math"
	"math/big"
	"slices"
	"strconv"
	"strings"
	"sync"
	"testing"
)

// modulus is 2^64.
var modulus = new(big.Int).Lsh(big.NewInt(1), 64)

// decimal returns a number that is written in decimal digits.
func decimal(t *testing.T, text string) *big.Int {
	t.Helper()
	x, ok := new(big.Int).SetString(text, 10)
	if !ok {
		t.Fatalf("no number: %s", text)
	}
	return x
}

// shifted returns x xor (x >> n).
func shifted(x *big.Int, n uint) *big.Int {
	return new(big.Int).Xor(x, new(big.Int).Rsh(x, n))
}

// times returns x times y modulo 2^64.
func times(x, y *big.Int) *big.Int {
	return new(big.Int).Mod(new(big.Int).Mul(x, y), modulus)
}

// expected computes the digest of a text word by word as the chapter defines it, with numbers of any size.
func expected(t *testing.T, text string) string {
	t.Helper()
	padded := []byte(text)
	for {
		padded = append(padded, 0)
		if len(padded)%8 == 0 {
			break
		}
	}
	state := new(big.Int).Xor(decimal(t, "1442695040888963407"), big.NewInt(int64(len(text))))
	for block := range slices.Chunk(padded, 8) {
		x := new(big.Int).Xor(state, new(big.Int).SetBytes(block))
		x = shifted(times(x, decimal(t, "6364136223846793005")), 31)
		state = shifted(times(x, decimal(t, "3202034522624059733")), 30)
	}
	return fmt.Sprintf("%016x", state)
}

// texts returns texts of all lengths from 0 to 40, and long ones, with bytes of all kinds.
func texts() []string {
	var l []string
	for n := range 41 {
		l = append(l, strings.Repeat("a", n), strings.Repeat("\x00", n), strings.Repeat("\xff", n))
		mixed := make([]byte, n)
		for i := range mixed {
			mixed[i] = byte(37*i + 11*n)
		}
		l = append(l, string(mixed))
	}
	for _, n := range []int{255, 256, 257, 4096, 65536} {
		l = append(l, strings.Repeat("law ", n))
	}
	return append(l, "ä", "法", "0123456789abcdef", "1:a2:bc")
}

// different fails the test if two texts have one digest.
type different map[string]string

func (d different) add(t *testing.T, text string) {
	t.Helper()
	sum := Sum(text)
	if other, ok := d[sum]; ok && other != text {
		t.Fatalf("%q and %q have one digest: %s", other, text, sum)
	}
	d[sum] = text
}

// P1.1, A1: the digests of these texts were computed by another program.
func TestSumOfKnownTexts(t *testing.T) {
	for _, test := range []struct{ text, want string }{
		{"", "54ccc2bc4949174a"},
		{"a", "6d20fe6858522c8b"},
		{"\x00", "d89cd5b428a283f1"},
		{"\x80\xfe\xff", "47e2ff6a67e65c90"},
		{"äö", "06225254702c4474"},
		{"abcdefg", "beaff017c8f267e2"},
		{"abcdefgh", "4ffa4f2734dbb933"},
		{"abcdefghi", "21c2083db42c6e6c"},
		{strings.Repeat("\xff", 7), "7a3013549ffde8f7"},
		{strings.Repeat("\xff", 8), "5de1cc1afdb1d88f"},
		{strings.Repeat("\x00", 8), "9915009b1589a703"},
		{strings.Repeat("\x00", 16), "f13f4c669a024435"},
		{"0123456789abcdef", "6da758cbabbd079e"},
		{"article 1: tax is 5", "e445e34c51d904d8"},
		{strings.Repeat("x", 1000), "5af46d9b604149a7"},
	} {
		if got := Sum(test.text); got != test.want {
			t.Errorf("%q: %s instead of %s", test.text, got, test.want)
		}
	}
}

// P1.1, A1: texts of all lengths, those of a multiple of 8 bytes among them.
func TestSumAsDefined(t *testing.T) {
	for _, text := range texts() {
		if got, want := Sum(text), expected(t, text); got != want {
			t.Errorf("%d bytes %.20q: %s instead of %s", len(text), text, got, want)
		}
	}
}

// P1.1, A1: the first digit of a digest may be 0.
func TestSumKeepsLeadingZeros(t *testing.T) {
	if got := Sum("33"); got != "0ef62bfe9cb2e0a4" {
		t.Error(got)
	}
	zeros := 0
	for i := range 5000 {
		text := strconv.Itoa(i)
		got := Sum(text)
		if got != expected(t, text) {
			t.Fatalf("%s: %s", text, got)
		}
		if strings.HasPrefix(got, "00") {
			zeros++
		}
	}
	if zeros == 0 {
		t.Error("no digest with two zeros at its beginning was tried")
	}
}

// P1.1, A1: the digest of a list is that of its joined text.
func TestList(t *testing.T) {
	for _, test := range []struct {
		list []string
		text string
	}{
		{nil, ""},
		{[]string{}, ""},
		{[]string{""}, "0:"},
		{[]string{"", "", ""}, "0:0:0:"},
		{[]string{"a", "bc"}, "1:a2:bc"},
		{[]string{"a2:bc"}, "5:a2:bc"},
		{[]string{"bc", "a"}, "2:bc1:a"},
		{[]string{"0123456789"}, "10:0123456789"},
		{[]string{"ä", ":"}, "2:ä1::"},
		{[]string{"\x00\xff"}, "2:\x00\xff"},
		{[]string{strings.Repeat("z", 1000)}, "1000:" + strings.Repeat("z", 1000)},
	} {
		if got, want := List(test.list), expected(t, test.text); got != want {
			t.Errorf("%.40q: %s instead of %s", test.list, got, want)
		}
	}
	if got := List([]string{"a", "bc"}); got != "7698ac6b1b389c93" {
		t.Error(got)
	}
}

// P1.1, A2: numbers below 1, ordinary ones, and those above 1000.
func TestChain(t *testing.T) {
	for _, text := range []string{"", "x", "no digest", "abcdefgh", "0123456789abcdef"} {
		for _, n := range []int{0, -1, -1000, math.MinInt} {
			if got := Chain(text, n); got != text {
				t.Errorf("%q, %d: %q", text, n, got)
			}
		}
		want := text
		for n := 1; n <= 1000; n++ {
			want = Sum(want)
			if got := Chain(text, n); got != want {
				t.Fatalf("%q, %d: %s instead of %s", text, n, got, want)
			}
		}
		for _, n := range []int{1001, 1002, 2000, 1 << 40, math.MaxInt} {
			if got := Chain(text, n); got != want {
				t.Errorf("%q, %d: %s instead of %s", text, n, got, want)
			}
		}
	}
}

// P1.1, A2: the chains of this text were computed by another program.
func TestChainOfKnownText(t *testing.T) {
	for n, want := range map[int]string{0: "x", 1: "a9af88745c6ff4f7", 2: "2ac2b4f0e3610478", 3: "3994cfd2256e7e62", 999: "39ecd3dc1398f0e2", 1000: "35d880d06a2be577"} {
		if got := Chain("x", n); got != want {
			t.Errorf("%d: %s instead of %s", n, got, want)
		}
	}
}

// P1.1, A3: a text of 16 digits is a digest, whether it is one of a text or not.
func TestIs(t *testing.T) {
	for _, text := range []string{"0123456789abcdef", "0000000000000000", "ffffffffffffffff", "9999999999999999", "aaaaaaaaaaaaaaaa", Sum("")} {
		if !Is(text) {
			t.Errorf("%q is a digest", text)
		}
	}
	for _, text := range []string{
		"", "0", "0123456789abcde", "0123456789abcdef0", "0123456789abcdef0123456789abcdef",
		"0123456789abcdeF", "0123456789ABCDEF", "0123456789abcdeg", "g123456789abcdef", "0x23456789abcdef",
		" 123456789abcdef", "0123456789abcde ", "0123456789abcde\n", "0123456789abcdef\n", "0123456 789abcdef",
		"+123456789abcdef", "-123456789abcdef", "0123456789abcd.f", "0123_456789abcde",
		"0123456789abcd\u00e9", "\u0660\u0661\u0662\u0663\u0664\u0665\u0666\u0667", strings.Repeat("\x00", 16), strings.Repeat("\xff", 16),
	} {
		if Is(text) {
			t.Errorf("%q is no digest", text)
		}
	}
}

// P1.1, A3: of the 256 bytes just 16 are hexadecimal digits, wherever they stand.
func TestIsForEveryByte(t *testing.T) {
	for at := range 16 {
		for b := range 256 {
			text := []byte("0123456789abcdef")
			text[at] = byte(b)
			want := strings.IndexByte("0123456789abcdef", byte(b)) >= 0
			if Is(string(text)) != want {
				t.Errorf("byte %d at %d", b, at)
			}
		}
	}
}

// P1.2: what Sum, List and Chain return is a digest; the digits are looked at here without Is.
func TestFormOfDigests(t *testing.T) {
	check := func(what, got string) {
		t.Helper()
		if !Is(got) || len(got) != 16 || strings.Trim(got, "0123456789abcdef") != "" {
			t.Fatalf("%s: %q is no digest", what, got)
		}
	}
	for _, text := range texts() {
		check("Sum", Sum(text))
		check("List", List([]string{text}))
		check("List", List([]string{text, "", text}))
		for _, n := range []int{1, 2, 7, 1000, 1001, math.MaxInt} {
			check("Chain", Chain(text, n))
		}
	}
	check("List", List(nil))
	check("List", List(make([]string, 1000)))
}

// undo returns the state before a number was mixed, so that short texts can be read off their digests.
func undo(x uint64) uint64 {
	back := func(x, factor uint64, shift uint) uint64 {
		y := x
		for range 64 {
			y = x ^ y>>shift
		}
		inverse := factor
		for range 6 {
			inverse *= 2 - factor*inverse
		}
		return y * inverse
	}
	return back(back(x, 3202034522624059733, 30), 6364136223846793005, 31)
}

// P1.3: all texts of at most 2 bytes have different digests.
func TestShortTextsDiffer(t *testing.T) {
	seen := different{}
	seen.add(t, "")
	for a := range 256 {
		seen.add(t, string([]byte{byte(a)}))
		for b := range 256 {
			seen.add(t, string([]byte{byte(a), byte(b)}))
		}
	}
	if len(seen) != 1+256+256*256 {
		t.Error(len(seen))
	}
}

// P1.3: texts of up to 7 bytes, bytes 0 at their ends among them, can be read off their digests, so that no two of them
// have one digest.
func TestShortTextsAreReadBack(t *testing.T) {
	seen := different{}
	for n := range 8 {
		for k := range 20000 {
			text := make([]byte, n)
			x := uint64(k)*0x9e3779b97f4a7c15 + uint64(n)
			for i := range text {
				if k%3 != 0 || i%2 == 0 {
					text[i] = byte(x >> (8 * i))
				}
			}
			seen.add(t, string(text))
			sum, err := strconv.ParseUint(Sum(string(text)), 16, 64)
			if err != nil {
				t.Fatal(err)
			}
			state := undo(sum) ^ 1442695040888963407
			block := make([]byte, 0, 8)
			for i := range 8 {
				block = append(block, byte(state>>(56-8*i)))
			}
			// The length stands in the last byte, which a block of such a text does not use.
			if length := int(block[7]); length != n || string(block[:n]) != string(text) {
				t.Fatalf("%q was read as %q of %d bytes", text, block, length)
			}
		}
	}
}

// P1.4: texts of one length that differ in one block only.
func TestOneBlock(t *testing.T) {
	for n := 1; n <= 40; n++ {
		base := []byte(strings.Repeat("The law. ", 5)[:n])
		for from := 0; from < n; from += 8 {
			seen := different{}
			seen.add(t, string(base))
			end := min(from+8, n)
			for k := range 2000 {
				text := slices.Clone(base)
				x := uint64(k) * 0xbf58476d1ce4e5b9
				for i := from; i < end; i++ {
					text[i] = byte(x >> (8 * (i - from)))
				}
				seen.add(t, string(text))
			}
			for at := from; at < end; at++ {
				for b := range 256 {
					text := slices.Clone(base)
					text[at] = byte(b)
					seen.add(t, string(text))
				}
			}
		}
	}
}

// P1.5: the chain of a chain is the longer chain.
func TestChainOfChain(t *testing.T) {
	for _, text := range []string{"", "x", "0123456789abcdef", "eight by"} {
		longer := []string{text}
		for n := range 1000 {
			longer = append(longer, Sum(longer[n]))
		}
		for _, sum := range []int{0, 1, 2, 3, 17, 500, 999, 1000} {
			for m := 0; m <= sum; m += 1 + sum/50 {
				if got := Chain(Chain(text, m), sum-m); got != longer[sum] || got != Chain(text, sum) {
					t.Fatalf("%q, %d and %d: %s", text, m, sum-m, got)
				}
			}
			if got := Chain(Chain(text, sum), 0); got != longer[sum] {
				t.Fatalf("%q, %d and 0: %s", text, sum, got)
			}
		}
	}
}

// P1.5 does not hold for numbers below 0 or for a sum above 1000, as A2 says what they count as.
func TestChainOfChainOutsideOfItsBounds(t *testing.T) {
	if Chain(Chain("x", -1), 2) != Chain("x", 2) {
		t.Error("a number below 0 adds nothing")
	}
	if Chain(Chain("x", 1000), 1) != Sum(Chain("x", 1000)) {
		t.Error("a chain is prolonged beyond 1000")
	}
	if Chain(Chain("x", 1000), 1) == Chain("x", 1001) {
		t.Error("1001 counts as 1000")
	}
}

// lists returns all lists of at most most elements out of some.
func lists(elements []string, most int) [][]string {
	all := [][]string{nil}
	last := all
	for range most {
		var longer [][]string
		for _, l := range last {
			for _, e := range elements {
				longer = append(longer, append(slices.Clone(l), e))
			}
		}
		all = append(all, longer...)
		last = longer
	}
	return all
}

// P1.6: different lists have different joined texts, even if their elements look like joined texts.
func TestListsHaveDifferentJoinedTexts(t *testing.T) {
	elements := []string{"", "0", "1", ":", "0:", "1:", "1:a", "a", "aa", "0:0:", "2:aa", "00", "1::", "\x00", strings.Repeat("9", 10)}
	seen := map[string]bool{}
	for _, l := range lists(elements, 4) {
		text := joined(l)
		if seen[text] {
			t.Fatalf("%q has a joined text of another list: %q", l, text)
		}
		seen[text] = true
		if List(l) != Sum(text) {
			t.Fatalf("%q: not the digest of %q", l, text)
		}
	}
}

// P1.6: lists whose joined texts have at most 7 bytes have different digests.
func TestShortListsDiffer(t *testing.T) {
	elements := []string{"", "\x00", "0", "1", ":", "a", "b", "\xff", "0:", "00", "ab", "ba", "abc", "0:0", "abcd", "1:ab", "abcde", "0:0:0"}
	seen := map[string][]string{}
	for _, l := range lists(elements, 4) {
		if len(joined(l)) > 7 {
			continue
		}
		sum := List(l)
		if other, ok := seen[sum]; ok {
			t.Fatalf("%q and %q have one digest", other, l)
		}
		seen[sum] = l
	}
	if len(seen) < 150 {
		t.Errorf("only %d lists were tried", len(seen))
	}
}

// P1.6: lists whose joined texts differ in one block only have different digests.
func TestListsOfOneBlockDiffer(t *testing.T) {
	seen := map[string][]string{}
	for a := range 256 {
		for b := range 256 {
			// The bytes of the last element are the third block: "11:aaaaa", "aaaaaa2:" and they.
			l := []string{"aaaaaaaaaaa", string([]byte{byte(a), byte(b)})}
			sum := List(l)
			if other, ok := seen[sum]; ok {
				t.Fatalf("%q and %q have one digest", other, l)
			}
			seen[sum] = l
		}
	}
	// Here the elements end at other places.
	for _, pair := range [][2][]string{
		{{"", "0:"}, {"0:", ""}},
		{{"1", "1:1"}, {"1:1", "1"}},
		{{"12:34:5678", "x"}, {"12:34:5678", "y"}},
	} {
		if List(pair[0]) == List(pair[1]) {
			t.Errorf("%q and %q have one digest", pair[0], pair[1])
		}
	}
}

// DOC.md, P1: nothing panics, whatever the bytes and numbers are.
func TestAllArguments(t *testing.T) {
	long := strings.Repeat("\xc3\x28\x00", 1<<20)
	many := make([]string, 1<<17)
	for i := range many {
		many[i] = long[:i%300]
	}
	for _, text := range append(texts(), long, long[:1<<20]) {
		if !Is(Sum(text)) || !Is(List([]string{text, text})) || Is(text) && len(text) != 16 {
			t.Errorf("%.20q", text)
		}
		for _, n := range []int{math.MinInt, math.MinInt + 1, -1, 0, 1, math.MaxInt - 1, math.MaxInt} {
			if got := Chain(text, n); n < 1 && got != text || n > 0 && !Is(got) {
				t.Errorf("%.20q, %d: %.20q", text, n, got)
			}
		}
	}
	if !Is(List(many)) {
		t.Error("many elements")
	}
}

// DOC.md, P3: equal arguments yield equal results, wherever they are in memory and whoever calls at the same time.
func TestEqualArguments(t *testing.T) {
	l := []string{"tax", "", "5", strings.Repeat("z", 100)}
	same := append(make([]string, 0, 100), "t"+"ax", string([]byte{}), strconv.Itoa(5), strings.Repeat("zz", 50))
	sum, list, chain := Sum("The law."), List(l), Chain("The law.", 10)
	var group sync.WaitGroup
	for range 8 {
		group.Go(func() {
			for range 100 {
				text := string([]byte("The law."))
				if Sum(text) != sum || List(same) != list || Chain(text, 10) != chain || !Is(string([]byte(sum))) {
					t.Error("another result for equal arguments")
					return
				}
			}
		})
	}
	group.Wait()
	if List(nil) != List([]string{}) {
		t.Error("a nil slice and an empty one are equivalent")
	}
}

// Rules of DOC.md: arguments are not modified.
func TestArgumentsStay(t *testing.T) {
	l := []string{"a", "", "bc", "d"}
	was := slices.Clone(l)
	List(l[:2])
	List(l)
	if !slices.Equal(l, was) {
		t.Errorf("%q", l)
	}
}
