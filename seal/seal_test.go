package seal

import (
	"fmt"
	"math"
	"slices"
	"strconv"
	"strings"
	"sync"
	"testing"

	"pandect/api"
	"pandect/digest"
)

// public returns a public key that there is.
func public(t *testing.T, secret string, height int) string {
	t.Helper()
	key, err := Public(secret, height)
	if err != api.OK {
		t.Fatalf("%.20q, height %d: error %d", secret, height, err)
	}
	return key
}

// sign returns a seal that there is.
func sign(t *testing.T, secret string, height, index int, message string) api.Seal {
	t.Helper()
	s, err := Sign(secret, height, index, message)
	if err != api.OK {
		t.Fatalf("%.20q, height %d, index %d: error %d", secret, height, index, err)
	}
	return s
}

// someIndices returns all indices of low trees, and the outer and middle ones of high trees.
func someIndices(height int) []int {
	n := 1 << height
	if height > 4 {
		return []int{0, 1, 2, 9, 10, 11, n/2 - 1, n / 2, n - 2, n - 1}
	}
	var l []int
	for i := range n {
		l = append(l, i)
	}
	return l
}

// P3.1, C1: these public keys were computed by another program.
func TestKnownPublicKeys(t *testing.T) {
	for secret, want := range map[string][]string{
		"":                        {"b819b926970a0613", "2b8da74db3aebc4d", "311ab9001b1c6010", "ff4d22750d6bce44", "25198e51783a4722", "e98db5df931b17c8", "efef63ea3a5567ee", "29a33cc50ad243b6", "bb324265cadff1c1"},
		"s":                       {"cd433d67babe5df5", "1704bb075a630361", "1c6532c2833a5599", "7fd271444c5885c3", "10c3bc04850a4df4", "adb77b3bfe1eaf72", "f83aee042747787f", "66ad3881ee342c33", "004ac4ddf07d03d4"},
		"member 7":                {"7414dc2f74e2242a", "f6406bd489cdb75e", "a1e1ea3afa9d55e9", "295fc9f6fd4d59f7", "0960d5ba862875a1", "cebe339e1d4dcfa3", "1f92e91cc0b3692a", "7839f270716acf91", "366f105fd5c22505"},
		"\x00\xff":                {"73f50712cf55c322", "48cab32aadda09ca", "4ae7f43a715a8ac5", "ef03ffedece97670", "f4bb775660a4ede6", "1a765b2b17b28b52", "ca5b3b12a8378f55", "f28949a3d2a781b3", "7022557e35a15e90"},
		strings.Repeat("x", 1000): {"fe3970b9e90272d4", "fd180f6a7c9ded3d", "331d7b04ef1b209e", "b0752b5a2a62e36e", "c4b416b1333b1e9f", "d037c8c99769a95b", "6a449d8cb01a06da", "b9ad7aae8f238ebe", "e0ef8164166a8292"},
	} {
		for height, key := range want {
			if got := public(t, secret, height); got != key {
				t.Errorf("%.20q, height %d: %s instead of %s", secret, height, got, key)
			}
		}
	}
}

// P3.1, C1: public keys of all heights.
func TestPublicAsDefined(t *testing.T) {
	for _, secret := range secrets() {
		for height := range 9 {
			if got, want := public(t, secret, height), newOwner(secret, height).public(); got != want {
				t.Errorf("%.20q, height %d: %s instead of %s", secret, height, got, want)
			}
		}
	}
}

// P3.1, C1 and C2: heights that there are not.
func TestHeightsOutOfRange(t *testing.T) {
	for _, secret := range secrets() {
		for _, height := range []int{math.MinInt, -64, -9, -8, -2, -1, 9, 10, 62, 63, 64, 1 << 32, 1<<32 + 8, math.MaxInt} {
			if got, err := Public(secret, height); got != "" || err != api.ErrArg {
				t.Errorf("height %d: %q, %d", height, got, err)
			}
			for _, index := range []int{math.MinInt, -1, 0, 1, math.MaxInt} {
				if got, err := Sign(secret, height, index, "tax is 5"); !equal(got, api.Seal{}) || err != api.ErrArg {
					t.Errorf("height %d, index %d: %v, %d", height, index, got, err)
				}
			}
		}
	}
}

// P3.1, C2: indices that there are not.
func TestIndicesOutOfRange(t *testing.T) {
	for height := range 9 {
		n := 1 << height
		for _, index := range []int{math.MinInt, -n - 1, -n, -2, -1, n, n + 1, 2 * n, 1 << 32, math.MaxInt} {
			if got, err := Sign("s", height, index, "tax is 5"); !equal(got, api.Seal{}) || err != api.ErrArg {
				t.Errorf("height %d, index %d: %v, %d", height, index, got, err)
			}
		}
		for _, index := range []int{0, n - 1} {
			if got := sign(t, "s", height, index, "tax is 5"); got.Index != index {
				t.Errorf("height %d, index %d: %v", height, index, got)
			}
		}
	}
}

// P3.1, C2: these seals were computed by another program.
func TestKnownSeals(t *testing.T) {
	for _, test := range []struct {
		secret  string
		height  int
		message string
		want    api.Seal
	}{
		{"", 0, "", api.Seal{
			Index: 0,
			Sig: []string{
				"5914d8f37042dd85", "320a25e0418743dc", "9a017e69a2050d8b", "3a7758564415faa6", "fa78e3fee4a4d7b9", "97bae8795198af92",
				"5fffa5cf28f8c729", "2a16d746d5cead1c", "1655b70a9a86909e", "8daad961961ff8be", "7771c0dfd0c3226c", "9b26d0860b03b9c9",
				"0be30e49cacfdd5f", "983697b23b8df08e", "12c1d6d7263de561", "50815c8ac325ad8f", "25271fb6154de216", "2639401b5603c649",
			},
		}},
		{"s", 2, "tax is 5", api.Seal{
			Index: 3,
			Sig: []string{
				"676a60aa0e18f220", "0b4832331488a0c9", "6780423cba908019", "f7b51f6b13672dd4", "6f3279ed98d916a7", "f3586ac31cc96d2c",
				"431c41f597273239", "44660314d8482de7", "22efb503917ef091", "dbea120c5b820cb7", "43bfb0dcb3704b30", "59263ecfc672864b",
				"6f386e687e608eb9", "1d1df5a664e0aea5", "b75d945b3529bdc8", "66d65812af59ef4f", "d26971f63b54f4e4", "9292f5efa696c48c",
			},
			Path: []string{"929772e3eb72c231", "1704bb075a630361"},
		}},
		{"member 7", 3, "", api.Seal{
			Index: 5,
			Sig: []string{
				"be0dd10c15eb6839", "58dd7cc608a4e9d5", "616d646059eae3df", "2eb28873d89d7942", "245e53264622c7bb", "6a92fff8355bd013",
				"eac9e42c0323524a", "0b72624b81e8cc73", "818f8b2964700fff", "cfc5423caffa2acf", "6a543f7b6945c720", "50859f18692caab8",
				"6634ac95efe00265", "6cf0729b6b4f5f8f", "49369736115a69b5", "ce8a9e7b6ed73415", "ae6e2db4928e77c4", "dae4d549abab21d5",
			},
			Path: []string{"1c1a9e8fe0840d9b", "0c7eea073020fa99", "a1e1ea3afa9d55e9"},
		}},
	} {
		if got := sign(t, test.secret, test.height, test.want.Index, test.message); !equal(got, test.want) {
			t.Errorf("%q: %v instead of %v", test.secret, got, test.want)
		}
	}
	high := sign(t, "s", 8, 200, "tax is 5")
	if digest.List(high.Sig) != "b684c54dfc34f2c9" || !slices.Equal(high.Path, []string{
		"affdc9fe0986e0bd", "d36be7e1828e46a3", "843aa2f460ac38e3", "c4c10f474f05c595",
		"2237b0cb43cd226b", "a69adb0536478fb4", "c45ad18db7da1ad1", "66ad3881ee342c33",
	}) {
		t.Error(high)
	}
}

// P3.1, C2: seals of all kinds of messages, by keys of trees of all heights.
func TestSignAsDefined(t *testing.T) {
	for height := range 9 {
		o := newOwner("member 7", height)
		for _, index := range someIndices(height) {
			for n, message := range messages() {
				if height > 4 && n != index%len(messages()) {
					continue
				}
				if got, want := sign(t, o.secret, height, index, message), o.seal(index, message); !equal(got, want) {
					t.Errorf("height %d, index %d, %.20q: %v instead of %v", height, index, message, got, want)
				}
			}
		}
	}
	for _, secret := range secrets() {
		o := newOwner(secret, 1)
		for _, message := range messages() {
			if got, want := sign(t, secret, 1, 1, message), o.seal(1, message); !equal(got, want) {
				t.Errorf("%.20q, %.20q: %v instead of %v", secret, message, got, want)
			}
		}
	}
}

// P3.1, C2: each element of a seal stands as many steps after the start of its chain as its digit says; the checksum has
// two digits, the more significant one first, whatever it is.
func TestDigitsOfMessages(t *testing.T) {
	keys := modelPlaces("s", 0)
	for _, test := range []struct {
		sum      uint64
		checksum [2]int
	}{
		{0x0000000000000000, [2]int{15, 0}},
		{0x0000000000000001, [2]int{14, 15}},
		{0x1000000000000000, [2]int{14, 15}},
		{0x1111111111111111, [2]int{14, 0}},
		{0x7777777777777777, [2]int{8, 0}},
		{0x0123456789abcdef, [2]int{7, 8}},
		{0xfedcba9876543210, [2]int{7, 8}},
		{0xffffffffffffff00, [2]int{1, 14}},
		{0xefffffffffffff0f, [2]int{1, 0}},
		{0x0fffffffffffffff, [2]int{0, 15}},
		{0xfffffffffffffffe, [2]int{0, 1}},
		{0xffffffffffffffff, [2]int{0, 0}},
	} {
		message := messageOf(test.sum)
		if got := digest.Sum(message); got != fmt.Sprintf("%016x", test.sum) {
			t.Fatalf("%x: a message with the digest %s", test.sum, got)
		}
		s := sign(t, "s", 0, 0, message)
		for k, at := range s.Sig {
			var digit int
			if k < 16 {
				digit = int(test.sum >> (60 - 4*k) & 15)
			} else {
				digit = test.checksum[k-16]
			}
			if want := keys[k][digit]; at != want {
				t.Errorf("%x: %s instead of %s for digit %d", test.sum, at, want, k)
			}
		}
		if !Verify(public(t, "s", 0), message, s) {
			t.Errorf("%x: refused", test.sum)
		}
	}
}

// P3.1: the examples of the chapter.
func TestExamples(t *testing.T) {
	zero := messageOf(0)
	keys := modelPlaces("s", 0)
	if s := sign(t, "s", 0, 0, zero); digest.Sum(zero) != "0000000000000000" || s.Sig[15] != keys[15][0] || s.Sig[16] != keys[16][15] || s.Sig[17] != keys[17][0] {
		t.Error(s)
	}
	if _, err := Public("s", 9); err != api.ErrArg {
		t.Error(err)
	}
	if _, err := Sign("s", 2, 4, "tax is 5"); err != api.ErrArg {
		t.Error(err)
	}
	s := sign(t, "s", 2, 3, "tax is 5")
	s.Path = sign(t, "s", 3, 3, "tax is 5").Path
	if Verify(public(t, "s", 2), "tax is 5", s) {
		t.Error("another path of 3 elements")
	}
}

// P3.1, C3: seals that are right for a public key that nobody has made are accepted: what counts is what is computed.
func TestVerifyOfMadeUpSeals(t *testing.T) {
	for height := range 9 {
		for _, index := range someIndices(height) {
			for _, message := range messages() {
				s := api.Seal{Index: index, Sig: madeUp(18), Path: madeUp(height)}
				key := computed(message, s)
				if !modelVerify(key, message, s) || !Verify(key, message, s) {
					t.Errorf("height %d, index %d, %.20q: refused", height, index, message)
				}
				if Verify(madeUp(1)[0], message, s) {
					t.Errorf("height %d, index %d, %.20q: accepted", height, index, message)
				}
			}
		}
	}
}

// P3.1, C3: a seal has 18 elements; others are refused even if the public key is computed from them.
func TestVerifyOfOtherNumbersOfElements(t *testing.T) {
	for _, n := range []int{0, 1, 16, 17, 18, 19, 20, 36, 1000} {
		for height := range 9 {
			for _, message := range messages() {
				s := api.Seal{Sig: madeUp(n), Path: madeUp(height)}
				if got := Verify(computed(message, s), message, s); got != (n == 18) {
					t.Errorf("%d elements, height %d: %v", n, height, got)
				}
			}
		}
	}
}

// P3.1, C3: a path has at most 8 elements; more are refused even if the public key is computed from them.
func TestVerifyOfLongPaths(t *testing.T) {
	for _, height := range []int{0, 7, 8, 9, 10, 19, 20, 31, 32, 62, 63, 64, 65, 1000} {
		for _, index := range []int{0, 1, 255, 256} {
			s := api.Seal{Index: index, Sig: madeUp(18), Path: madeUp(height)}
			want := height <= 8 && index < 1<<height
			if got := Verify(computed("tax is 5", s), "tax is 5", s); got != want {
				t.Errorf("a path of %d elements, index %d: %v", height, index, got)
			}
		}
	}
}

// P3.1, C3: an index that is no key's is refused even if the public key is computed with its last binary digits.
func TestVerifyOfNoIndex(t *testing.T) {
	for height := range 9 {
		n := 1 << height
		for _, index := range []int{math.MinInt, -n - 1, -n, -2, -1, 0, n - 1, n, n + 1, 2*n - 1, 2 * n, 1 << 32, math.MaxInt} {
			s := api.Seal{Index: index, Sig: madeUp(18), Path: madeUp(height)}
			want := 0 <= index && index < n
			if got := Verify(computed("tax is 5", s), "tax is 5", s); got != want {
				t.Errorf("height %d, index %d: %v", height, index, got)
			}
		}
	}
}

// P3.1, C3: elements that are no digests are refused even if the public key is computed from them.
func TestVerifyOfNoDigests(t *testing.T) {
	for _, message := range messages() {
		for _, bad := range noDigests() {
			for at := range 18 + 8 {
				s := api.Seal{Index: 77, Sig: madeUp(18), Path: madeUp(8)}
				if at < 18 {
					s.Sig[at] = bad
				} else {
					s.Path[at-18] = bad
				}
				if Verify(computed(message, s), message, s) {
					t.Errorf("%.20q: %q was accepted as element %d", message, bad, at)
				}
			}
		}
	}
}

// P3.1, C3: no seal is one for a public key that is no digest, or for nothing.
func TestVerifyOfNoKey(t *testing.T) {
	for height := range 4 {
		s, key := sign(t, "s", height, 0, "tax is 5"), public(t, "s", height)
		for _, other := range append(noDigests(), strings.ToUpper(key), key[:15], key+"0", " "+key) {
			if other != key && Verify(other, "tax is 5", s) {
				t.Errorf("height %d: %q", height, other)
			}
			if Verify(other, "tax is 5", api.Seal{}) || Verify(key, "tax is 5", api.Seal{}) {
				t.Errorf("height %d: %q and no seal", height, other)
			}
		}
	}
}

// P3.2: each seal of each message, by each key of a secret, is accepted for its public key.
func TestSealsAreAccepted(t *testing.T) {
	for _, secret := range secrets() {
		for height := range 9 {
			key := public(t, secret, height)
			for _, index := range someIndices(height) {
				message := messages()[(index+height)%len(messages())]
				if !Verify(key, message, sign(t, secret, height, index, message)) {
					t.Errorf("%.20q, height %d, index %d, %.20q", secret, height, index, message)
				}
			}
		}
	}
	key := public(t, "s", 2)
	for i := range 1000 {
		message := "message " + strconv.Itoa(i)
		if !Verify(key, message, sign(t, "s", 2, i%4, message)) {
			t.Error(message)
		}
	}
	o := newOwner("s", 8)
	for i := range 256 {
		if !Verify(o.public(), "tax is 5", o.seal(i, "tax is 5")) {
			t.Errorf("height 8, index %d", i)
		}
	}
}

// changed returns seals that arise from one by another element, fewer, more or exchanged ones, or another index.
func changed(s api.Seal, others []string) []api.Seal {
	var l []api.Seal
	add := func(change func(s *api.Seal)) {
		c := clone(s)
		change(&c)
		l = append(l, c)
	}
	replace := func(at int, list func(s *api.Seal) []string) {
		add(func(s *api.Seal) { list(s)[at] = digest.Sum(list(s)[at]) })
		add(func(s *api.Seal) { list(s)[at] = strings.ToUpper(list(s)[at]) })
		add(func(s *api.Seal) { list(s)[at], list(s)[0] = list(s)[0], list(s)[at] })
		for _, other := range others {
			add(func(s *api.Seal) { list(s)[at] = other })
		}
	}
	for at := range s.Sig {
		replace(at, func(s *api.Seal) []string { return s.Sig })
		add(func(s *api.Seal) { s.Sig = slices.Delete(s.Sig, at, at+1) })
		add(func(s *api.Seal) { s.Sig = slices.Insert(s.Sig, at, s.Sig[at]) })
	}
	for at := range s.Path {
		replace(at, func(s *api.Seal) []string { return s.Path })
		add(func(s *api.Seal) { s.Path = slices.Delete(s.Path, at, at+1) })
		add(func(s *api.Seal) { s.Path = slices.Insert(s.Path, at, s.Path[at]) })
		add(func(s *api.Seal) { s.Path = s.Path[:at] })
	}
	add(func(s *api.Seal) { s.Path = append(s.Path, others[0]) })
	for index := -2; index <= 1<<len(s.Path)+1; index++ {
		add(func(s *api.Seal) { s.Index = index })
	}
	return l
}

// P3.3: of all seals that arise from one by a change, none is accepted but itself.
func TestChangedSealsAreRefused(t *testing.T) {
	for height := range 5 {
		o := newOwner("member 7", height)
		for index := range 1 << height {
			message := messages()[index%len(messages())]
			s := sign(t, o.secret, height, index, message)
			others := append(madeUp(1), "", "0123456789abcdeF", s.Sig[3], o.keys[index][3][0], o.keys[index][3][15], o.public(), o.levels[0][0])
			same := 0
			for _, c := range changed(s, others) {
				if equal(c, s) {
					same++
				}
				if Verify(o.public(), message, c) != equal(c, s) {
					t.Errorf("height %d, index %d, %.20q: %v", height, index, message, c)
				}
			}
			if same == 0 {
				t.Error("the seal itself was not tried")
			}
		}
	}
}

// P3.3: each place of a chain but the right one is refused.
func TestOtherPlacesOfChainsAreRefused(t *testing.T) {
	o := newOwner("s", 1)
	for _, message := range messages() {
		for k, digit := range modelDigits(message) {
			for n, at := range o.keys[1][k] {
				s := sign(t, "s", 1, 1, message)
				s.Sig[k] = at
				if Verify(o.public(), message, s) != (n == digit) {
					t.Errorf("%.20q: place %d of chain %d", message, n, k)
				}
			}
		}
	}
}

// continued returns the seal of one message, each chain of which is continued to the digit of another one as far as it
// is before it.
func continued(s api.Seal, message, other string) api.Seal {
	c := clone(s)
	to := modelDigits(other)
	for k, from := range modelDigits(message) {
		c.Sig[k] = digest.Chain(c.Sig[k], to[k]-from)
	}
	return c
}

// P3.3, P3.4: a message of which all digits are greater is not sealed by a seal that is continued: the checksum is less.
// If all digits are less, the checksum can be reached, but not they.
func TestContinuedSealsAreRefused(t *testing.T) {
	key := public(t, "s", 2)
	sums := []uint64{0, 1, 0x1000000000000000, 0x1111111111111111, 0x0123456789abcdef, 0x123456789abcdeff, 0x7777777777777777, 0xeeeeeeeeeeeeeeee, 0xfffffffffffffffe, math.MaxUint64}
	for _, from := range sums {
		for _, to := range sums {
			message, other := messageOf(from), messageOf(to)
			s := sign(t, "s", 2, 2, message)
			if got := Verify(key, other, continued(s, message, other)); got != (from == to) {
				t.Errorf("%x to %x: %v", from, to, got)
			}
		}
	}
}

// P3.4: the seal of a message is not accepted for another one.
func TestOtherMessagesAreRefused(t *testing.T) {
	all := append(messages(), "tax is 6", "Tax is 5", "tax is 5 ", "tax is 5\x00", "\x00\x00", "A", digest.Sum("a"))
	for i := range 60 {
		// Digests that differ in one bit only, and so in one digit and the checksum.
		all = append(all, messageOf(0x7777777777777777^1<<i))
	}
	// Digests with the same digits in another order: the checksum is the same.
	all = append(all, messageOf(0x0123456789abcdef), messageOf(0xfedcba9876543210), messageOf(0x1023456789abcdef))
	for height := range 3 {
		key := public(t, "s", height)
		for _, message := range all {
			s := sign(t, "s", height, height, message)
			for _, other := range all {
				if Verify(key, other, s) != (other == message) {
					t.Errorf("height %d: the seal of %.20q for %.20q", height, message, other)
				}
			}
		}
	}
}

// P3.4: two messages with one digest have one seal: what is sealed is the digest.
func TestMessagesOfOneDigest(t *testing.T) {
	const one = "tax is 5 for all"
	sum, err := strconv.ParseUint(digest.Sum(one), 16, 64)
	if err != nil {
		t.Fatal(err)
	}
	other := messageOf(sum)
	if one == other || digest.Sum(one) != digest.Sum(other) {
		t.Fatal("no two different messages with one digest")
	}
	s := sign(t, "s", 2, 1, one)
	if !equal(s, sign(t, "s", 2, 1, other)) || !Verify(public(t, "s", 2), other, s) {
		t.Error("the digests are the same, but not the seals")
	}
}

// P3.3: where two different texts have one digest, and only there, a seal is accepted that Sign does not return. These
// two digests with one digest, and a secret whose first chain starts with one of them, were found by another program.
func TestTwins(t *testing.T) {
	const one, other = "0006076820400000", "0011121096980704"
	const secret = "twin \xa6\xe1\x18\x67\xdd\x25\xb8\x85"
	if digest.Sum(one) != digest.Sum(other) || digest.List([]string{secret, "0", "0"}) != one {
		t.Fatal("no two different texts with one digest")
	}
	for height := range 3 {
		key := public(t, secret, height)
		s := sign(t, secret, height, 0, "155")
		if s.Sig[0] != one || !Verify(key, "155", s) {
			t.Fatalf("%s does not begin the seal of a message whose first digit is 0", one)
		}
		s.Sig[0] = other
		if !Verify(key, "155", s) {
			t.Error("an element with the digest of the right one was refused")
		}
		s.Sig[0] = "0006076820400001"
		if Verify(key, "155", s) {
			t.Error("an element with another digest was accepted")
		}
	}
}

// P3.5: the seal of one secret is not accepted for the public key of another one, nor with what belongs to this.
func TestOtherSecretsAreRefused(t *testing.T) {
	all := append(secrets(), "S", "s ", "s\x00", "\x00", "0", "1", "1:s", "s1:0", "member 71", "member")
	for height := range 3 {
		for _, secret := range all {
			s := sign(t, secret, height, 0, "tax is 5")
			for _, other := range all {
				key := public(t, other, height)
				if Verify(key, "tax is 5", s) != (other == secret) {
					t.Errorf("height %d: the seal of %.20q for %.20q", height, secret, other)
				}
				mixed := clone(s)
				mixed.Path = sign(t, other, height, 0, "tax is 5").Path
				if Verify(key, "tax is 5", mixed) != (other == secret) {
					t.Errorf("height %d: the seal of %.20q with the path of %.20q", height, secret, other)
				}
			}
		}
	}
}

// P3.3, P3.5: the seal of one height is not accepted for the public key of another one, whatever its path is.
func TestOtherHeightsAreRefused(t *testing.T) {
	for height := range 9 {
		s := sign(t, "s", height, 0, "tax is 5")
		for other := range 9 {
			key := public(t, "s", other)
			if Verify(key, "tax is 5", s) != (other == height) {
				t.Errorf("height %d for %d", height, other)
			}
			mixed := clone(s)
			mixed.Path = sign(t, "s", other, 0, "tax is 5").Path
			if !Verify(key, "tax is 5", mixed) || other != height && Verify(public(t, "s", height), "tax is 5", mixed) {
				t.Errorf("height %d with the path of %d", height, other)
			}
		}
	}
}

// P3.6: a public key is a digest; a seal has 18 digests, and as many further ones as the height says, and is
// reproducible.
func TestFormOfSeals(t *testing.T) {
	for _, secret := range secrets() {
		for height := range 9 {
			if key := public(t, secret, height); !areDigests([]string{key}) || !digest.Is(key) || key != public(t, secret, height) {
				t.Errorf("%.20q, height %d: %q", secret, height, key)
			}
			for n, message := range messages() {
				if height > 4 && n != height {
					continue
				}
				index := n % (1 << height)
				s := sign(t, secret, height, index, message)
				if s.Index != index || len(s.Sig) != 18 || len(s.Path) != height || !areDigests(s.Sig) || !areDigests(s.Path) {
					t.Errorf("%.20q, height %d, %.20q: %v", secret, height, message, s)
				}
				if !equal(s, sign(t, secret, height, index, message)) {
					t.Errorf("%.20q, height %d, %.20q: another seal", secret, height, message)
				}
			}
		}
	}
}

// P3.6: different heights of one secret have the same one-time keys: a tree is the first half of the next higher one.
func TestHeightsHaveTheSameKeys(t *testing.T) {
	for _, secret := range secrets() {
		for height := range 8 {
			n := 1 << height
			for _, index := range []int{0, n / 2, n - 1} {
				low, high := sign(t, secret, height, index, "tax is 5"), sign(t, secret, height+1, index, "tax is 5")
				if !slices.Equal(low.Sig, high.Sig) || !slices.Equal(low.Path, high.Path[:height]) {
					t.Errorf("%.20q, heights %d and more, index %d", secret, height, index)
				}
				if beside := sign(t, secret, height+1, n+index, "tax is 5").Path[height]; beside != public(t, secret, height) {
					t.Errorf("%.20q, heights %d and more, index %d: %s", secret, height, n+index, beside)
				}
			}
		}
	}
}

// DOC.md, P1: nothing panics, whatever the texts, numbers and lists are.
func TestAllArguments(t *testing.T) {
	numbers := []int{math.MinInt, math.MinInt + 1, -1, 0, 1, 2, 8, 9, 255, 256, 62, 63, 64, math.MaxInt - 1, math.MaxInt}
	long := strings.Repeat("\xc3\x28\x00", 1<<14)
	for _, text := range []string{"", "\xff", "0123456789abcdef", long} {
		for _, height := range numbers {
			if height > 2 && height < 9 && text == long {
				continue
			}
			if key, err := Public(text, height); (err == api.OK) != digest.Is(key) {
				t.Errorf("height %d: %q, %d", height, key, err)
			}
		}
		for _, height := range []int{math.MinInt, -1, 0, 1, 2, 9, math.MaxInt} {
			for _, index := range numbers {
				if s, err := Sign(text, height, index, text); (err == api.OK) != (len(s.Sig) == 18) {
					t.Errorf("height %d, index %d: %v, %d", height, index, s, err)
				}
			}
		}
	}
	for _, index := range numbers {
		for _, l := range [][]string{nil, {}, {""}, make([]string, 18), madeUp(18), slices.Repeat([]string{long}, 18), make([]string, 100000)} {
			for _, p := range [][]string{nil, {}, {""}, make([]string, 8), make([]string, 9), madeUp(8), madeUp(9), make([]string, 100000)} {
				if s := (api.Seal{Index: index, Sig: l, Path: p}); Verify("", long, s) || Verify(long, "", s) {
					t.Errorf("index %d, %d and %d elements", index, len(l), len(p))
				}
			}
		}
	}
}

// DOC.md, P3: equal arguments yield equal results, wherever they are in memory and whoever calls at the same time.
func TestEqualArguments(t *testing.T) {
	key, s := public(t, "secret", 2), sign(t, "secret", 2, 3, "tax is 5")
	var group sync.WaitGroup
	for range 8 {
		group.Go(func() {
			for range 20 {
				secret, message := string([]byte("secret")), string([]byte("tax is 5"))
				again, err := Public(secret, 2)
				other, bad := Sign(secret, 2, 3, message)
				if again != key || err != api.OK || !equal(other, s) || bad != api.OK || !Verify(string([]byte(key)), message, clone(s)) {
					t.Error("another result for equal arguments")
					return
				}
			}
		})
	}
	group.Wait()
	low := sign(t, "secret", 0, 0, "tax is 5")
	for _, path := range [][]string{nil, {}} {
		low.Path = path
		if !Verify(public(t, "secret", 0), "tax is 5", low) {
			t.Error("a nil slice and an empty one are equivalent")
		}
	}
}

// Rules of DOC.md: arguments are not modified, and results share no memory.
func TestMemory(t *testing.T) {
	s := sign(t, "s", 3, 5, "tax is 5")
	kept := clone(s)
	// There is room behind both lists, which nobody may write to.
	long := api.Seal{Index: 5, Sig: append(clone(s).Sig, "behind"), Path: append(clone(s).Path, "behind")}
	short := api.Seal{Index: 5, Sig: long.Sig[:18], Path: long.Path[:3]}
	if !Verify(public(t, "s", 3), "tax is 5", short) || Verify(public(t, "s", 3), "tax is 6", short) {
		t.Error("another result")
	}
	if !equal(short, kept) || long.Sig[18] != "behind" || long.Path[3] != "behind" {
		t.Error("a seal was changed")
	}
	clear(s.Sig)
	clear(s.Path)
	if !equal(sign(t, "s", 3, 5, "tax is 5"), kept) {
		t.Error("results share memory")
	}
	_ = append(s.Sig, "more")
	if len(s.Path) > 0 && s.Path[0] != "" {
		t.Error("the lists of a result share memory")
	}
}
