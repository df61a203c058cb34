package tree

import (
	"math/bits"
	"strconv"
	"strings"

	"pandect/digest"
)

// The model comes to the same roots, paths and links in another way than the chapter's definitions: from the leaves
// upwards, by the binary digits of the indices.

// part is the elements of a list from one index to before another one.
type part struct{ from, to int }

func leafDigest(text string) string { return digest.List([]string{"leaf", text}) }

func nodeDigest(first, others string) string { return digest.List([]string{"node", first, others}) }

// modelRoot joins parts of equal size as soon as there are two, and what is left at the end from the right.
func modelRoot(leaves []string) string {
	if len(leaves) == 0 {
		return digest.List([]string{"empty"})
	}
	var stack []string
	join := func() {
		n := len(stack)
		stack = append(stack[:n-2], nodeDigest(stack[n-2], stack[n-1]))
	}
	for i, leaf := range leaves {
		stack = append(stack, leafDigest(leaf))
		for range bits.TrailingZeros(uint(i + 1)) {
			join()
		}
	}
	for len(stack) > 1 {
		join()
	}
	return stack[0]
}

// beside returns the parts beside the way up from the part of 2^level elements that has the element i of n.
func beside(n, i, level int) []part {
	var l []part
	for ; 1<<level < n; level++ {
		if from := (i>>level ^ 1) << level; from < n {
			l = append(l, part{from, min(from+1<<level, n)})
		}
	}
	return l
}

// linkParts returns the parts whose roots are the link from the first m of n elements.
func linkParts(n, m int) []part {
	if m == 0 || m == n {
		return nil
	}
	level := bits.TrailingZeros(uint(m))
	l := beside(n, m-1, level)
	if 1<<level < m {
		l = append([]part{{m - 1<<level, m}}, l...)
	}
	return l
}

// roots returns the roots of parts of a list.
func roots(leaves []string, parts []part) []string {
	var l []string
	for _, p := range parts {
		l = append(l, modelRoot(leaves[p.from:p.to]))
	}
	return l
}

// climb follows the binary digits of an index and of the last index from one element of a proof to the next one. The
// function step is told whether the element stands before what is computed. It reports whether there are as many
// elements as the way has.
func climb(i, last int, proof []string, step func(element string, before bool)) bool {
	for _, element := range proof {
		if last == 0 {
			return false
		}
		before := i%2 == 1 || i == last
		step(element, before)
		for before && i%2 == 0 && i > 0 {
			i, last = i/2, last/2
		}
		i, last = i/2, last/2
	}
	return last == 0
}

// foldPath returns the root that is computed from a path, if it has the right length.
func foldPath(n, i int, leaf string, path []string) (string, bool) {
	root := leafDigest(leaf)
	ok := climb(i, n-1, path, func(element string, before bool) {
		if before {
			root = nodeDigest(element, root)
		} else {
			root = nodeDigest(root, element)
		}
	})
	return root, ok
}

// foldLink returns both roots that are computed from a link with 0 < m < n, if it has the right length.
func foldLink(old string, m, n int, link []string) (string, string, bool) {
	level := bits.TrailingZeros(uint(m))
	was := old
	if 1<<level < m {
		if len(link) == 0 {
			return "", "", false
		}
		was, link = link[0], link[1:]
	}
	is := was
	ok := climb((m-1)>>level, (n-1)>>level, link, func(element string, before bool) {
		if before {
			was, is = nodeDigest(element, was), nodeDigest(element, is)
		} else {
			is = nodeDigest(is, element)
		}
	})
	return was, is, ok
}

func areDigests(l ...string) bool {
	for _, text := range l {
		if len(text) != 16 || strings.Trim(text, "0123456789abcdef") != "" {
			return false
		}
	}
	return true
}

func modelCheck(root string, n, i int, leaf string, path []string) bool {
	if i < 0 || i >= n || n > 1000000 || !areDigests(path...) {
		return false
	}
	computed, ok := foldPath(n, i, leaf, path)
	return ok && computed == root
}

func modelExtends(old string, m int, root string, n int, link []string) bool {
	if m < 0 || m > n || n > 1000000 || !areDigests(old, root) || !areDigests(link...) {
		return false
	}
	switch m {
	case 0:
		return len(link) == 0 && old == modelRoot(nil) && (n != 0 || root == old)
	case n:
		return len(link) == 0 && old == root
	}
	was, is, ok := foldLink(old, m, n, link)
	return ok && was == old && is == root
}

// numbers returns the list of n different strings "0", "1" ..
func numbers(n int) []string {
	l := make([]string, n)
	for i := range l {
		l[i] = strconv.Itoa(i)
	}
	return l
}

// madeUp returns n digests that are the roots of nothing.
func madeUp(n int) []string {
	l := make([]string, n)
	for i := range l {
		l[i] = digest.Sum("made up " + strconv.Itoa(i))
	}
	return l
}

// nearPowers returns numbers of elements: small ones, and powers of two with one less and one more.
func nearPowers() []int {
	var l []int
	for n := range 35 {
		l = append(l, n)
	}
	return append(l, 63, 64, 65, 127, 128, 129)
}

// noDigests returns texts that look like digests, but are none.
func noDigests() []string {
	return []string{
		"", "x", "0123456789abcde", "0123456789abcdef0", "0123456789abcdeF", "0123456789abcdeg",
		" 123456789abcdef", "0123456789abcde\n", "0x23456789abcdef", strings.Repeat("\x00", 16),
	}
}
