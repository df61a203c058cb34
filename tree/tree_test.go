package tree

import (
	"encoding/binary"
	"math"
	"math/bits"
	"slices"
	"strconv"
	"strings"
	"sync"
	"testing"

	"pandect/api"
	"pandect/digest"
)

// path returns the path of an element that there is.
func path(t *testing.T, leaves []string, i int) []string {
	t.Helper()
	p, err := Path(leaves, i)
	if err != api.OK {
		t.Fatalf("%d elements: the path of %d has error %d", len(leaves), i, err)
	}
	return p
}

// link returns the link from a number of first elements that there are.
func link(t *testing.T, leaves []string, m int) []string {
	t.Helper()
	l, err := Link(leaves, m)
	if err != api.OK {
		t.Fatalf("%d elements: the link from %d has error %d", len(leaves), m, err)
	}
	return l
}

// P2.1, B1: the roots of these lists were computed by another program.
func TestRootOfKnownLists(t *testing.T) {
	for _, test := range []struct {
		leaves []string
		want   string
	}{
		{nil, "7334b6ef08925062"},
		{[]string{}, "7334b6ef08925062"},
		{[]string{""}, "c000c554ec4c3dd1"},
		{[]string{"a"}, "c9214f24c04805e4"},
		{[]string{"a", "b"}, "dab3efa358696df0"},
		{[]string{"a", "b", "c"}, "ec7f91c1ce503bc9"},
		{[]string{"", ""}, "9cdbb4d8449599d7"},
		{[]string{"ä", "\x00\xff"}, "78750b79cd894e69"},
		{numbers(7), "f3863bf2a8ef6fa0"},
		{numbers(8), "5a8eb021d79cbf7a"},
		{numbers(9), "b44246bcd49a6c35"},
		{numbers(1000), "30e381e1bd059677"},
	} {
		if got := Root(test.leaves); got != test.want {
			t.Errorf("%d elements %.5q: %s instead of %s", len(test.leaves), test.leaves, got, test.want)
		}
	}
}

// P2.1, B1: the examples of the chapter.
func TestExamples(t *testing.T) {
	list := func(l ...string) string { return digest.List(l) }
	a, b, c := list("leaf", "a"), list("leaf", "b"), list("leaf", "c")
	leaves := []string{"a", "b", "c"}
	if Root(nil) != list("empty") || Root(leaves) != list("node", list("node", a, b), c) {
		t.Error("roots")
	}
	for _, test := range []struct {
		got, want []string
	}{
		{path(t, leaves, 2), []string{list("node", a, b)}},
		{path(t, leaves, 0), []string{b, c}},
		{link(t, leaves, 2), []string{c}},
		{link(t, leaves, 1), []string{b, c}},
	} {
		if !slices.Equal(test.got, test.want) {
			t.Errorf("%q instead of %q", test.got, test.want)
		}
	}
}

// P2.1, B1: lists of all small lengths, and of powers of two and one more or less.
func TestRootAsDefined(t *testing.T) {
	for _, n := range append(nearPowers(), 255, 256, 257, 1023, 1024, 1025, 5000) {
		leaves := numbers(n)
		if got, want := Root(leaves), modelRoot(leaves); got != want {
			t.Errorf("%d elements: %s instead of %s", n, got, want)
		}
	}
}

// P2.1, B1: these paths were computed by another program.
func TestKnownPaths(t *testing.T) {
	for i, want := range map[int][]string{
		3: {"481a0e84a6a5036d", "5c757da56194082a", "86d568ccda693897"},
		6: {"ec9fc60cb671dd55", "0e60af3709872aaf"},
	} {
		if got := path(t, numbers(7), i); !slices.Equal(got, want) {
			t.Errorf("%d: %q instead of %q", i, got, want)
		}
	}
}

// P2.1, B1: the paths of all elements of lists.
func TestPathAsDefined(t *testing.T) {
	for _, n := range nearPowers() {
		leaves := numbers(n)
		for i := range n {
			if got, want := path(t, leaves, i), roots(leaves, beside(n, i, 0)); !slices.Equal(got, want) {
				t.Errorf("%d of %d: %q instead of %q", i, n, got, want)
			}
		}
	}
}

// P2.1, B1: there is no element before the first or after the last one, and none at all in an empty list.
func TestPathOfNoElement(t *testing.T) {
	for _, n := range nearPowers() {
		for _, i := range []int{math.MinInt, -n - 1, -2, -1, n, n + 1, 2*n + 1, 1 << 62, math.MaxInt} {
			if got, err := Path(numbers(n), i); len(got) != 0 || err != api.ErrArg {
				t.Errorf("%d of %d: %q, %d", i, n, got, err)
			}
		}
	}
	if got, err := Path(nil, 0); len(got) != 0 || err != api.ErrArg {
		t.Errorf("%q, %d", got, err)
	}
}

// P2.1, B2: the path of an element, whole, cut or prolonged, for all indices and numbers of elements.
func TestCheckAsDefined(t *testing.T) {
	accepted := 0
	for n := 1; n <= 18; n++ {
		leaves := numbers(n)
		root := Root(leaves)
		for i, leaf := range leaves {
			p := path(t, leaves, i)
			for _, proof := range [][]string{p, p[:max(0, len(p)-1)], p[min(1, len(p)):], append(slices.Clone(p), root)} {
				for claimed := -1; claimed <= 20; claimed++ {
					for at := -1; at <= 20; at++ {
						got, want := Check(root, claimed, at, leaf, proof), modelCheck(root, claimed, at, leaf, proof)
						if got != want {
							t.Fatalf("%d of %d as %d of %d with %d elements: %v", i, n, at, claimed, len(proof), got)
						}
						if got {
							accepted++
						}
					}
				}
			}
		}
	}
	// Each element is proved for its own index, and some also for other lengths in which the way is the same.
	if accepted <= 18*19/2 {
		t.Error(accepted)
	}
}

// P2.1, B2: proofs of lists that nobody has made, up to 1000000 elements; one element more is too much.
func TestCheckOfLargeNumbers(t *testing.T) {
	for _, n := range []int{65535, 65536, 65537, 524287, 524288, 524289, 999999, 1000000, 1000001, 1 << 20, 1 << 30} {
		for _, i := range []int{0, 1, n / 2, n / 3, n &^ 1, n - 2, n - 1} {
			if i >= n {
				continue
			}
			proof := madeUp(len(beside(n, i, 0)))
			root, ok := foldPath(n, i, "tax is 5", proof)
			if !ok {
				t.Fatalf("%d of %d: no path", i, n)
			}
			if got := Check(root, n, i, "tax is 5", proof); got != (n <= 1000000) {
				t.Errorf("%d of %d: %v", i, n, got)
			}
		}
	}
	// Numbers that double would overflow are refused before anything is computed.
	proof := madeUp(len(beside(1000001, 1000000, 0)))
	root, _ := foldPath(1000001, 1000000, "", proof)
	if Check(root, 1000001, 1000000, "", proof) || Check(root, math.MaxInt, math.MaxInt-1, "", proof) || Check(root, math.MaxInt, 0, "", proof) {
		t.Error("more than 1000000 elements")
	}
}

// P2.1, B2: indices that there are not.
func TestCheckOfNoElement(t *testing.T) {
	root := Root([]string{"a"})
	if !Check(root, 1, 0, "a", nil) || !Check(root, 1, 0, "a", []string{}) {
		t.Error("the only element")
	}
	for _, n := range []int{math.MinInt, -1, 0, 1, 2, 1000000, math.MaxInt} {
		for _, i := range []int{math.MinInt, -1, n, math.MaxInt} {
			if Check(root, n, i, "a", nil) || Check(Root(nil), n, i, "a", nil) {
				t.Errorf("%d of %d", i, n)
			}
		}
	}
	if Check(Root(nil), 0, 0, "", nil) || Check(Root(nil), 1, 0, "", nil) || Check(Root(nil), 1, 0, "empty", nil) {
		t.Error("the empty list")
	}
}

// P2.1, B2: elements that are no digests are refused even if the root is computed from them.
func TestCheckOfNoDigests(t *testing.T) {
	for _, bad := range noDigests() {
		for n := 2; n <= 9; n++ {
			for i := range n {
				proof := madeUp(len(beside(n, i, 0)))
				for at := range proof {
					spoilt := slices.Clone(proof)
					spoilt[at] = bad
					root, _ := foldPath(n, i, "a", spoilt)
					if Check(root, n, i, "a", spoilt) {
						t.Errorf("%d of %d: %q was accepted", i, n, bad)
					}
					spoilt[at] = proof[at]
					root, _ = foldPath(n, i, "a", spoilt)
					if !Check(root, n, i, "a", spoilt) {
						t.Errorf("%d of %d: a right path was refused", i, n)
					}
				}
			}
		}
		if Check(bad, 1, 0, "a", nil) || Check(Root([]string{"a"}), 1, 0, "a", []string{bad}) {
			t.Errorf("%q", bad)
		}
	}
}

// P2.1, B2: a path that is too short is refused even if the root is computed from it with empty texts that are missing.
func TestCheckOfMissingElements(t *testing.T) {
	for n := 2; n <= 17; n++ {
		for i := range n {
			whole := madeUp(len(beside(n, i, 0)))
			for left := range whole {
				filled := append(slices.Clone(whole[:left]), make([]string, len(whole)-left)...)
				if root, ok := foldPath(n, i, "a", filled); !ok || Check(root, n, i, "a", whole[:left]) {
					t.Errorf("%d of %d: %d of %d elements were enough", i, n, left, len(whole))
				}
			}
		}
	}
}

// P2.1, B3: these links were computed by another program.
func TestKnownLinks(t *testing.T) {
	for _, test := range []struct {
		n, m int
		want []string
	}{
		{7, 6, []string{"ec9fc60cb671dd55", "cd203e67ca4dc0e8", "0e60af3709872aaf"}},
		{7, 3, []string{"481a0e84a6a5036d", "afd22f8e57858748", "5c757da56194082a", "86d568ccda693897"}},
		{8, 4, []string{"2e7980d21dff8227"}},
	} {
		if got := link(t, numbers(test.n), test.m); !slices.Equal(got, test.want) {
			t.Errorf("%d of %d: %q instead of %q", test.m, test.n, got, test.want)
		}
	}
}

// P2.1, B3: all links of lists; those from none and from all elements are empty.
func TestLinkAsDefined(t *testing.T) {
	for _, n := range nearPowers() {
		leaves := numbers(n)
		for m := range n + 1 {
			got, want := link(t, leaves, m), roots(leaves, linkParts(n, m))
			if !slices.Equal(got, want) || (m == 0 || m == n) && len(got) != 0 {
				t.Errorf("%d of %d: %q instead of %q", m, n, got, want)
			}
		}
	}
}

// P2.1, B3: numbers of first elements below 0 or above that of all.
func TestLinkOfTooMany(t *testing.T) {
	for _, n := range nearPowers() {
		for _, m := range []int{math.MinInt, -n - 1, -2, -1, n + 1, n + 2, 2*n + 1, 1 << 62, math.MaxInt} {
			if got, err := Link(numbers(n), m); len(got) != 0 || err != api.ErrArg {
				t.Errorf("%d of %d: %q, %d", m, n, got, err)
			}
		}
	}
}

// P2.1, B4: links, whole, cut or prolonged, for all pairs of numbers of elements.
func TestExtendsAsDefined(t *testing.T) {
	accepted := 0
	for n := range 18 {
		leaves := numbers(n)
		root := Root(leaves)
		for m := range n + 1 {
			l := link(t, leaves, m)
			old := Root(leaves[:m])
			for _, proof := range [][]string{l, l[:max(0, len(l)-1)], l[min(1, len(l)):], append(slices.Clone(l), root), append([]string{old}, l...)} {
				for before := -1; before <= 19; before++ {
					for after := -1; after <= 19; after++ {
						got, want := Extends(old, before, root, after, proof), modelExtends(old, before, root, after, proof)
						if got != want {
							t.Fatalf("%d of %d as %d of %d with %d elements: %v", m, n, before, after, len(proof), got)
						}
						if got {
							accepted++
						}
					}
				}
			}
		}
	}
	if accepted <= 18*19/2 {
		t.Error(accepted)
	}
}

// P2.1, B4: links of lists that nobody has made, up to 1000000 elements; one element more is too much.
func TestExtendsOfLargeNumbers(t *testing.T) {
	old, root := madeUp(2)[0], madeUp(2)[1]
	for _, n := range []int{65535, 65536, 65537, 524287, 524288, 524289, 999999, 1000000, 1000001, 1 << 20, 1 << 30} {
		few := n <= 1000000
		for _, m := range []int{1, 2, 3, 1024, 1025, 65536, n / 2, n / 3, n - 2, n - 1} {
			if m >= n {
				continue
			}
			proof := madeUp(len(linkParts(n, m)))
			was, is, ok := foldLink(old, m, n, proof)
			if !ok {
				t.Fatalf("%d of %d: no link", m, n)
			}
			if got := Extends(was, m, is, n, proof); got != few {
				t.Errorf("%d of %d: %v", m, n, got)
			}
		}
		if Extends(old, n, old, n, nil) != few || Extends(Root(nil), 0, root, n, nil) != few {
			t.Errorf("none or all of %d", n)
		}
	}
	for _, m := range []int{0, 1, 1 << 62, math.MaxInt} {
		if Extends(old, m, old, math.MaxInt, nil) || Extends(Root(nil), m, Root(nil), math.MaxInt, nil) {
			t.Errorf("%d of too many", m)
		}
	}
}

// P2.1, B4: from no elements: the link is empty, the old root that of the empty list, and any root of a list is good.
func TestExtendsNone(t *testing.T) {
	empty, some := Root(nil), Root(numbers(5))
	for _, test := range []struct {
		old  string
		m    int
		root string
		n    int
		link []string
		want bool
	}{
		{empty, 0, empty, 0, nil, true},
		{empty, 0, empty, 0, []string{}, true},
		{empty, 0, some, 0, nil, false},
		{some, 0, some, 0, nil, false},
		{some, 0, empty, 0, nil, false},
		{empty, 0, empty, 0, []string{empty}, false},
		{empty, 0, some, 5, nil, true},
		{empty, 0, some, 4, nil, true},
		{empty, 0, empty, 5, nil, true},
		{some, 0, some, 5, nil, false},
		{empty, 0, some, 5, []string{some}, false},
		{empty, 0, some, -1, nil, false},
		{empty, -1, empty, 0, nil, false},
		{empty, -1, empty, -1, nil, false},
		{empty, -1, some, 5, nil, false},
		{empty, 1, empty, 0, nil, false},
		{empty, math.MinInt, empty, math.MinInt, nil, false},
		{empty, math.MinInt, some, 5, nil, false},
	} {
		if got := Extends(test.old, test.m, test.root, test.n, test.link); got != test.want {
			t.Errorf("%+v: %v", test, got)
		}
	}
}

// P2.1, B4: from all elements: the link is empty, and both roots are equal, whatever list they are of.
func TestExtendsAll(t *testing.T) {
	made := madeUp(2)
	for _, n := range []int{1, 2, 3, 4, 5, 8, 1000000} {
		if !Extends(made[0], n, made[0], n, nil) || !Extends(made[0], n, made[0], n, []string{}) {
			t.Errorf("%d: equal roots", n)
		}
		if Extends(made[0], n, made[1], n, nil) || Extends(made[0], n, made[0], n, made[:1]) || Extends(made[0], n, made[0], n, made) {
			t.Errorf("%d: other roots or a link", n)
		}
		if Extends(made[0], n, made[0], n-1, nil) || Extends(made[0], n+1, made[0], n, nil) {
			t.Errorf("%d: more elements before than after", n)
		}
	}
}

// P2.1, B4: roots and elements that are no digests are refused even if the roots are computed from them.
func TestExtendsOfNoDigests(t *testing.T) {
	good := madeUp(1)[0]
	for _, bad := range noDigests() {
		for n := 2; n <= 9; n++ {
			for m := 1; m < n; m++ {
				proof := madeUp(len(linkParts(n, m)))
				for at := range proof {
					spoilt := slices.Clone(proof)
					spoilt[at] = bad
					was, is, _ := foldLink(good, m, n, spoilt)
					if Extends(was, m, is, n, spoilt) {
						t.Errorf("%d of %d: %q was accepted", m, n, bad)
					}
				}
				if was, is, _ := foldLink(bad, m, n, proof); was == bad && Extends(was, m, is, n, proof) {
					t.Errorf("%d of %d: the old root %q was accepted", m, n, bad)
				}
				if was, is, _ := foldLink(good, m, n, proof); !Extends(was, m, is, n, proof) {
					t.Errorf("%d of %d: a right link was refused", m, n)
				}
			}
			if Extends(bad, n, bad, n, nil) || Extends(Root(nil), 0, bad, n, nil) || Extends(bad, 0, good, n, nil) {
				t.Errorf("none or all of %d: %q", n, bad)
			}
		}
		if Extends(bad, 0, bad, 0, nil) || Extends(Root(nil), 0, bad, 0, nil) {
			t.Errorf("none of none: %q", bad)
		}
	}
}

// P2.1, B4: a link that is too short is refused even if the roots are computed from it with empty texts that are missing.
func TestExtendsOfMissingElements(t *testing.T) {
	for n := 2; n <= 17; n++ {
		for m := 1; m < n; m++ {
			whole := madeUp(len(linkParts(n, m)))
			for left := range whole {
				filled := append(slices.Clone(whole[:left]), make([]string, len(whole)-left)...)
				if was, is, ok := foldLink(Root(nil), m, n, filled); !ok || Extends(was, m, is, n, whole[:left]) {
					t.Errorf("%d of %d: %d of %d elements were enough", m, n, left, len(whole))
				}
			}
		}
	}
}

// P2.2: the path of each element proves it.
func TestPathProves(t *testing.T) {
	for _, n := range append(nearPowers(), 1000, 1023, 1024, 1025) {
		leaves := numbers(n)
		root := Root(leaves)
		for i, leaf := range leaves {
			if n > 200 && i%97 != 0 && i != n-1 && i != n-2 {
				continue
			}
			if !Check(root, n, i, leaf, path(t, leaves, i)) {
				t.Errorf("%d of %d", i, n)
			}
		}
	}
	odd := []string{"", "", "\x00", "leaf", "node", "empty", Root(nil), "4:leaf1:a", strings.Repeat("ä", 5000), "\xff"}
	for i, leaf := range odd {
		if !Check(Root(odd), len(odd), i, leaf, path(t, odd, i)) {
			t.Errorf("%.20q", leaf)
		}
	}
}

// P2.3: with no path of a list, as it is, shortened, prolonged or changed, another string is proved.
func TestPathProvesNothingElse(t *testing.T) {
	for n := 1; n <= 17; n++ {
		leaves := numbers(n)
		root := Root(leaves)
		proofs := [][]string{nil, {root}}
		others := []string{"", "x", root, Root(nil), "leaf", "node", "1:0", "00", "4:leaf1:0"}
		for i := range leaves {
			p := path(t, leaves, i)
			proofs = append(proofs, p, p[:max(0, len(p)-1)], append(slices.Clone(p), root))
			others = append(others, leaves[i], leafDigest(leaves[i]), strings.Join(p, ""))
		}
		for i, leaf := range leaves {
			for _, p := range proofs {
				for _, other := range others {
					if other != leaf && Check(root, n, i, other, p) {
						t.Fatalf("%q was proved at %d of %d", other, i, n)
					}
				}
			}
		}
	}
}

// P2.3: a path that is too short, too long, changed, turned round, or of another root, proves not even the right string.
func TestChangedPaths(t *testing.T) {
	for n := 1; n <= 17; n++ {
		leaves := numbers(n)
		root := Root(leaves)
		for i, leaf := range leaves {
			p := path(t, leaves, i)
			refuse := func(what string, changed []string) {
				t.Helper()
				if !slices.Equal(changed, p) && Check(root, n, i, leaf, changed) {
					t.Errorf("%d of %d: %s", i, n, what)
				}
			}
			for at := range p {
				for _, other := range append(madeUp(1), root, leafDigest(leaf), p[0]) {
					changed := slices.Clone(p)
					changed[at] = other
					refuse("a changed element", changed)
				}
				refuse("too short", p[:at])
				refuse("without an element", slices.Delete(slices.Clone(p), at, at+1))
				refuse("too long", slices.Insert(slices.Clone(p), at, root))
			}
			refuse("too long", append(slices.Clone(p), root))
			turned := slices.Clone(p)
			slices.Reverse(turned)
			refuse("turned round", turned)
			for _, other := range []string{"", "x", madeUp(1)[0], Root(nil), strings.ToUpper(root), root + "0", root[:15]} {
				if Check(other, n, i, leaf, p) {
					t.Errorf("%d of %d: another root %q", i, n, other)
				}
			}
		}
	}
}

// P2.3, P2.4: what stands inside of a tree is no element: the roots of parts are told from those of elements.
func TestPartsAreNoElements(t *testing.T) {
	leaves := numbers(4)
	root := Root(leaves)
	first, others := Root(leaves[:2]), Root(leaves[2:])
	inside := "4:node16:" + leafDigest("0") + "16:" + leafDigest("1")
	for _, forged := range []string{first, inside, leafDigest("0") + leafDigest("1"), "01", "0:1"} {
		if Check(root, 2, 0, forged, []string{others}) {
			t.Errorf("%q was proved", forged)
		}
		if Root([]string{forged, others}) == root || Root([]string{forged}) == first {
			t.Errorf("%q has the root of a part", forged)
		}
	}
	if Root([]string{first, others}) == root || Root([]string{"empty"}) == Root(nil) || Root([]string{""}) == Root(nil) {
		t.Error("roots")
	}
}

// allLists returns all lists of n of some strings.
func allLists(strings []string, n int) [][]string {
	lists := [][]string{nil}
	for range n {
		var longer [][]string
		for _, l := range lists {
			for _, s := range strings {
				longer = append(longer, append(slices.Clone(l), s))
			}
		}
		lists = longer
	}
	return lists
}

// P2.4: different lists have different roots; here even those of different lengths.
func TestDifferentListsHaveDifferentRoots(t *testing.T) {
	odd := []string{"", "a", "b", "leaf", "4:leaf1:a", leafDigest("a"), nodeDigest(leafDigest("a"), leafDigest("b"))}
	seen := map[string][]string{}
	for n := range 6 {
		for _, l := range allLists(odd, n) {
			root := Root(l)
			if other, ok := seen[root]; ok {
				t.Fatalf("%q and %q have one root", other, l)
			}
			seen[root] = l
		}
	}
	if len(seen) != 1+7+7*7+7*7*7+7*7*7*7+7*7*7*7*7 {
		t.Error(len(seen))
	}
	for _, n := range nearPowers() {
		leaves := numbers(n)
		root := Root(leaves)
		for i := range n {
			changed := slices.Clone(leaves)
			changed[i] += "'"
			swapped := slices.Clone(leaves)
			swapped[i], swapped[(i+1)%n] = swapped[(i+1)%n], swapped[i]
			if Root(changed) == root || n > 1 && Root(swapped) == root {
				t.Errorf("%d of %d", i, n)
			}
		}
	}
}

// twins returns two different strings for which the roots of lists of one of them are digests of two different texts
// that have one digest: after a change of the second block the third one leads to the same state again.
func twins() (string, string) {
	mixed := func(x uint64) uint64 {
		x *= 6364136223846793005
		x ^= x >> 31
		x *= 3202034522624059733
		return x ^ x>>30
	}
	number := func(block string) uint64 { return binary.BigEndian.Uint64([]byte(block)) }
	before := mixed(1442695040888963407 ^ 27 ^ number("4:leaf18"))
	one, other := mixed(before^number(":article")), mixed(before^number(":chapter"))
	third := binary.BigEndian.AppendUint64(nil, number("says tax")^one^other)
	return "articlesays tax 5!", "chapter" + string(third) + " 5!"
}

// P2.3, P2.4, P2.6: where two different strings have one digest, and only there, a proof holds for another string: what
// is bound are the digests.
func TestTwins(t *testing.T) {
	a, b := twins()
	if a == b || digest.List([]string{"leaf", a}) != digest.List([]string{"leaf", b}) {
		t.Fatal("no two different texts with one digest")
	}
	for n := 1; n <= 9; n++ {
		for i := range n {
			leaves := numbers(n)
			leaves[i] = a
			forged := slices.Clone(leaves)
			forged[i] = b
			root := Root(leaves)
			if Root(forged) != root || !Check(root, n, i, b, path(t, leaves, i)) {
				t.Errorf("%d of %d: a string with the digest of the element was refused", i, n)
			}
			if Check(root, n, i, b+" ", path(t, leaves, i)) {
				t.Errorf("%d of %d: a string with another digest was accepted", i, n)
			}
			for m := range n + 1 {
				if !Extends(Root(forged[:m]), m, root, n, link(t, leaves, m)) {
					t.Errorf("%d of %d: a list with the digests of the first %d was refused", i, n, m)
				}
			}
		}
	}
}

// P2.5: the link from the first elements proves that the root of all extends theirs.
func TestLinkProves(t *testing.T) {
	for _, n := range append(nearPowers(), 1000, 1023, 1024, 1025) {
		leaves := numbers(n)
		root := Root(leaves)
		for m := range n + 1 {
			if n > 200 && m%97 != 0 && m&(m-1) != 0 && m < n-2 {
				continue
			}
			if !Extends(Root(leaves[:m]), m, root, n, link(t, leaves, m)) {
				t.Errorf("%d of %d", m, n)
			}
		}
	}
}

// P2.5: a list that grows, step by step, extends all that it was.
func TestListThatGrows(t *testing.T) {
	var leaves []string
	was := []string{Root(nil)}
	for n := 1; n <= 40; n++ {
		leaves = append(leaves, "issue "+strconv.Itoa(n))
		root := Root(leaves)
		was = append(was, root)
		for m, old := range was {
			if !Extends(old, m, root, n, link(t, leaves, m)) {
				t.Errorf("%d of %d", m, n)
			}
		}
	}
}

// P2.6: no other list of as many elements is extended, with whatever link of both lists.
func TestLinkProvesNothingElse(t *testing.T) {
	for n := 1; n <= 13; n++ {
		leaves := numbers(n)
		root := Root(leaves)
		for m := 1; m <= n; m++ {
			var forged [][]string
			for i := range m {
				changed := slices.Clone(leaves[:m])
				changed[i] += "'"
				swapped := slices.Clone(leaves[:m])
				swapped[i], swapped[0] = swapped[0], swapped[i]
				forged = append(forged, changed, swapped)
			}
			if m < n {
				forged = append(forged, leaves[n-m:])
			}
			for _, other := range forged {
				if slices.Equal(other, leaves[:m]) {
					continue
				}
				grown := append(slices.Clone(other), leaves[m:]...)
				for _, proof := range [][]string{link(t, leaves, m), link(t, grown, m), nil, {Root(other)}, {root}} {
					if Extends(Root(other), m, root, n, proof) {
						t.Errorf("%q was extended to %d", other, n)
					}
				}
			}
		}
	}
}

// P2.6: a link that is too short, too long or changed, or other roots, prove nothing.
func TestChangedLinks(t *testing.T) {
	for n := 2; n <= 17; n++ {
		leaves := numbers(n)
		root := Root(leaves)
		for m := 1; m < n; m++ {
			old, l := Root(leaves[:m]), link(t, leaves, m)
			refuse := func(what, old, root string, changed []string) {
				t.Helper()
				if Extends(old, m, root, n, changed) {
					t.Errorf("%d of %d: %s", m, n, what)
				}
			}
			for at := range l {
				for _, other := range append(madeUp(1), root, old, l[0]) {
					changed := slices.Clone(l)
					changed[at] = other
					if other != l[at] {
						refuse("a changed element", old, root, changed)
					}
				}
				refuse("too short", old, root, l[:at])
				refuse("without an element", old, root, slices.Delete(slices.Clone(l), at, at+1))
				refuse("too long", old, root, slices.Insert(slices.Clone(l), at, root))
			}
			refuse("too long", old, root, append(slices.Clone(l), root))
			refuse("with the old root", old, root, append([]string{old}, l...))
			for _, other := range append(madeUp(1), Root(nil), root) {
				refuse("another old root", other, root, l)
			}
			for _, other := range append(madeUp(1), Root(nil), old) {
				refuse("another root", old, other, l)
			}
			refuse("both roots exchanged", root, old, l)
		}
	}
}

// P2.7: a path has at most as many elements as the number of elements has binary digits, a link at most one more.
func TestSizes(t *testing.T) {
	for n := range 300 {
		leaves := numbers(n)
		digits := bits.Len(uint(n))
		for i := range n {
			if n > 100 && i%23 != 0 && i != n-1 {
				continue
			}
			if got := len(path(t, leaves, i)); got > digits {
				t.Errorf("%d of %d: a path of %d", i, n, got)
			}
		}
		for m := range n + 1 {
			if n > 100 && m%23 != 0 && m != n-1 {
				continue
			}
			if got := len(link(t, leaves, m)); got > digits+1 {
				t.Errorf("%d of %d: a link of %d", m, n, got)
			}
		}
	}
}

// P2.1, P2.2, P2.5, P2.7: a list as long as proofs allow, and one that is longer by one element: its paths and links are
// made, but not accepted.
func TestLongLists(t *testing.T) {
	leaves := numbers(1000001)
	most := leaves[:1000000]
	root, tooLong := Root(most), Root(leaves)
	if root != "24378dbe0b668b1d" {
		t.Error(root)
	}
	for _, i := range []int{0, 524288, 999999} {
		p, l := path(t, most, i), link(t, most, i)
		if len(p) > 20 || len(l) > 21 {
			t.Errorf("%d: a path of %d and a link of %d", i, len(p), len(l))
		}
		if !Check(root, 1000000, i, most[i], p) || !Extends(Root(most[:i]), i, root, 1000000, l) {
			t.Errorf("%d of 1000000", i)
		}
	}
	p, l := path(t, leaves, 1000000), link(t, leaves, 1000000)
	if computed, ok := foldPath(1000001, 1000000, "1000000", p); !ok || computed != tooLong {
		t.Error("the path of the last one of 1000001")
	}
	if was, is, ok := foldLink(root, 1000000, 1000001, l); !ok || was != root || is != tooLong {
		t.Error("the link from 1000000 to 1000001")
	}
	if Check(tooLong, 1000001, 1000000, "1000000", p) || Extends(root, 1000000, tooLong, 1000001, l) {
		t.Error("1000001 elements were accepted")
	}
}

// DOC.md, P1: nothing panics; with an error there is no other result.
func TestAllArguments(t *testing.T) {
	extreme := []int{math.MinInt, math.MinInt + 1, -1 << 32, -1, 0, 1, 2, 3, 999999, 1000000, 1000001, 1 << 32, 1 << 62, math.MaxInt - 1, math.MaxInt}
	lists := [][]string{nil, {}, {""}, {"", ""}, madeUp(1), madeUp(2), madeUp(20), madeUp(21), madeUp(1000), noDigests(), make([]string, 500)}
	texts := []string{"", "x", "\xff\x00", strings.Repeat("law ", 10000), Root(nil), Root([]string{""}), madeUp(1)[0]}
	for _, l := range lists {
		if !digest.Is(Root(l)) {
			t.Errorf("the root of %.3q", l)
		}
		for _, n := range extreme {
			if p, err := Path(l, n); (err == api.OK) != (0 <= n && n < len(l)) || err != api.OK && (err != api.ErrArg || len(p) != 0) {
				t.Errorf("Path of %d of %d: %q, %d", n, len(l), p, err)
			}
			if k, err := Link(l, n); (err == api.OK) != (0 <= n && n <= len(l)) || err != api.OK && (err != api.ErrArg || len(k) != 0) {
				t.Errorf("Link of %d of %d: %q, %d", n, len(l), k, err)
			}
			for _, m := range extreme {
				for _, text := range texts {
					if Check(text, n, m, text, l) != modelCheck(text, n, m, text, l) {
						t.Errorf("Check of %.20q as %d of %d", text, m, n)
					}
					for _, old := range texts {
						if Extends(old, m, text, n, l) != modelExtends(old, m, text, n, l) {
							t.Errorf("Extends of %.20q, %d to %.20q, %d", old, m, text, n)
						}
					}
				}
			}
		}
	}
}

// DOC.md, P3: equal arguments yield equal results, whoever calls at the same time.
func TestEqualArguments(t *testing.T) {
	leaves := numbers(11)
	root, p, l := Root(leaves), path(t, leaves, 6), link(t, leaves, 6)
	old := Root(leaves[:6])
	var group sync.WaitGroup
	for range 8 {
		group.Go(func() {
			for range 50 {
				same := append(make([]string, 0, 100), numbers(11)...)
				gotPath, _ := Path(same, 6)
				gotLink, _ := Link(same, 6)
				if Root(same) != root || !slices.Equal(gotPath, p) || !slices.Equal(gotLink, l) ||
					!Check(root, 11, 6, "6", p) || !Extends(old, 6, root, 11, l) {
					t.Error("another result for equal arguments")
					return
				}
			}
		})
	}
	group.Wait()
	if Root(nil) != Root([]string{}) {
		t.Error("a nil slice and an empty one are equivalent")
	}
}

// Rules of DOC.md: arguments are not modified, not even behind their ends, and results are memory of their own.
func TestArgumentsStay(t *testing.T) {
	leaves := numbers(20)
	for m := range 12 {
		part := leaves[:11]
		root := Root(part)
		p, l := path(t, part, m%11), link(t, part, m)
		keptPath, keptLink := slices.Clone(p), slices.Clone(l)
		longPath, longLink := append(slices.Clone(p), "behind", "it"), append(slices.Clone(l), "behind", "it")
		if !Check(root, 11, m%11, part[m%11], longPath[:len(p)]) || !Extends(Root(part[:m]), m, root, 11, longLink[:len(l)]) {
			t.Errorf("%d: refused", m)
		}
		if !slices.Equal(longPath, append(slices.Clone(p), "behind", "it")) || !slices.Equal(longLink, append(slices.Clone(l), "behind", "it")) {
			t.Errorf("%d: a proof was changed", m)
		}
		clear(p)
		clear(l)
		if !slices.Equal(path(t, part, m%11), keptPath) || !slices.Equal(link(t, part, m), keptLink) {
			t.Errorf("%d: results share memory", m)
		}
	}
	if !slices.Equal(leaves, numbers(20)) {
		t.Errorf("%q", leaves)
	}
}
