package formula

import (
	"slices"
	"strings"
	"testing"

	"pandect/api"
	"pandect/lexer"
)

// wide returns a formula of a size, which is from 3 on, and of the depth 2.
func wide(size int) api.Formula { return and(repeated(size-1, yes())...) }

// deep returns a formula of a size and a depth, which is from 2 on and not greater than the size.
func deep(size, depth int) api.Formula {
	if size == depth {
		return nots(depth-1, yes())
	}
	return nots(depth-2, or(repeated(size-depth+1, no())...))
}

// P7.1, G1: the limits of sizes and depths, in all kinds of trees.
func TestLimits(t *testing.T) {
	half := and(repeated(98, yes())...)
	for _, test := range []struct {
		what string
		f    api.Formula
		want api.Errno
	}{
		{"size 199", wide(199), api.OK},
		{"size 200", wide(200), api.OK},
		{"size 201", wide(201), api.ErrLimit},
		{"size 202", wide(202), api.ErrLimit},
		{"size 100000", wide(100000), api.ErrLimit},
		{"depth 19", deep(19, 19), api.OK},
		{"depth 20", deep(20, 20), api.OK},
		{"depth 21", deep(21, 21), api.ErrLimit},
		{"depth 22", deep(22, 22), api.ErrLimit},
		{"depth 200", deep(200, 200), api.ErrLimit},
		{"size 200 and depth 20", deep(200, 20), api.OK},
		{"size 201 and depth 20", deep(201, 20), api.ErrLimit},
		{"size 200 and depth 21", deep(200, 21), api.ErrLimit},
		{"size 201 and depth 21", deep(201, 21), api.ErrLimit},
		{"size 300 and depth 30", deep(300, 30), api.ErrLimit},
		{"size 199 in two parts", or(half, half), api.OK},
		{"size 200 in two parts", or(half, wide(100)), api.OK},
		{"size 201 in two parts", or(wide(100), wide(100)), api.ErrLimit},
		{"depth 20 in the first part", and(nots(18, no()), yes()), api.OK},
		{"depth 21 in the first part", and(nots(19, no()), yes()), api.ErrLimit},
		{"depth 20 in the last part", and(yes(), yes(), nots(18, no())), api.OK},
		{"depth 21 in the last part", and(yes(), yes(), nots(19, no())), api.ErrLimit},
		{"depth 21 between others", or(deep(20, 20).Kids[0], nots(19, term("p")), yes()), api.ErrLimit},
	} {
		if got := Check(test.f, example(), nil); got != test.want {
			t.Errorf("%s: %v", test.what, got)
		}
		for _, f := range []api.Formula{test.f, or(test.f.Kids...), and(append([]api.Formula{no()}, test.f.Kids...)...)} {
			for _, c := range []api.Case{{20, 0}, {0, 1}} {
				if got, want := Holds(f, example(), c, nil), modelHolds(f, example(), c, nil); got != want {
					t.Errorf("%s: Holds %v", test.what, got)
				}
			}
		}
	}
}

// P7.1, G1: a size or depth that is too great is named before all errors of nodes, wherever these are.
func TestLimitsFirst(t *testing.T) {
	bad := []api.Formula{{}, {Op: 8}, test("7", 1, 1), test("age", 7, 1), test("age", 1, -1), test("income", 1, 1), term("q"), term("")}
	for _, node := range bad {
		for _, f := range []api.Formula{
			and(append([]api.Formula{node}, repeated(199, yes())...)...), and(append(repeated(199, yes()), node)...), nots(20, node),
			or(node, nots(19, yes())), or(nots(19, yes()), node), {Op: node.Op, Name: node.Name, Cmp: node.Cmp, N: node.N, Kids: repeated(200, yes())},
			{Op: node.Op, Name: node.Name, Cmp: node.Cmp, N: node.N, Kids: []api.Formula{nots(19, yes())}},
		} {
			if got := Check(f, example(), []string{"p"}); got != api.ErrLimit {
				t.Errorf("%s with %s: %v", brief(f), brief(node), got)
			}
		}
		if got := Check(nots(19, node), example(), []string{"p"}); got == api.OK || got == api.ErrLimit {
			t.Errorf("%s: %v", brief(node), got)
		}
	}
}

// brief returns the beginning of the text of a formula.
func brief(f api.Formula) string {
	text := textOf(f)
	return text[:min(len(text), 200)]
}

// P7.1, G1: each Op with all fields that belong to it or do not, and with each number of kids.
func TestNodes(t *testing.T) {
	ops := []int{least, -4, -1, 0, 1, 2, 3, 4, 5, 6, 7, 8, 9, 11, 1 << 32, 1<<32 + 1, most}
	names := []string{"", "age", "p", "q", "7", " age"}
	hows := []int{least, -1, 0, 1, 2, 3, 4, 5, 6, 7, 8, 1<<32 + 1, most}
	numbers := []int{least, -1, 0, 1, 18, 1000000, 1000001, most}
	d, terms := example(), []string{"p"}
	found := map[api.Errno]int{}
	for _, op := range ops {
		for _, name := range names {
			for _, how := range hows {
				for _, n := range numbers {
					for kids := range 5 {
						f := api.Formula{Op: op, Name: name, Cmp: how, N: n, Kids: repeated(kids, yes())}
						want := modelCheck(f, d, terms)
						found[want]++
						if got := Check(f, d, terms); got != want {
							t.Fatalf("%s: %v instead of %v", textOf(f), got, want)
						}
						if got := Holds(f, d, api.Case{18, 0}, terms); got != modelHolds(f, d, api.Case{18, 0}, terms) {
							t.Fatalf("%s: Holds %v", textOf(f), got)
						}
					}
				}
			}
		}
	}
	// Beside the formulas without any name, tests have 6 comparisons with 4 numbers in the range and 4 out of it.
	if want := (map[api.Errno]int{api.OK: 2 + 1 + 2*3 + 6*4 + 1, api.ErrRange: 3 * 6 * 4, api.ErrName: 2*6*4 + 2}); found[api.OK] != want[api.OK] || found[api.ErrRange] != want[api.ErrRange] || found[api.ErrName] != want[api.ErrName] {
		t.Errorf("%v instead of %v", found, want)
	}
}

// P7.1, G1: a node that is not well-formed is ErrArg, as the chapter says for each Op.
func TestNodesThatAreNotWellFormed(t *testing.T) {
	one, two := []api.Formula{yes()}, []api.Formula{yes(), yes()}
	for _, f := range []api.Formula{
		{}, {Op: -1}, {Op: 8}, {Op: 8, Kids: two}, {Op: most}, {Op: least},
		{Op: api.OpTrue, Name: "age"}, {Op: api.OpTrue, Cmp: 1}, {Op: api.OpTrue, N: 1}, {Op: api.OpTrue, N: -1}, {Op: api.OpTrue, Kids: one}, {Op: api.OpTrue, Kids: two},
		{Op: api.OpFalse, Name: "age"}, {Op: api.OpFalse, Cmp: 1}, {Op: api.OpFalse, N: 1}, {Op: api.OpFalse, Kids: one},
		test("", 1, 1), test("7", 1, 1), test("age", 0, 1), test("age", 7, 1), test("age", -1, 1), {Op: api.OpTest, Name: "age", Cmp: 1, N: 1, Kids: one},
		{Op: api.OpTest, Name: "age", Cmp: 1, N: 1, Kids: two}, {Op: api.OpTest, N: 1}, {Op: api.OpTest},
		term(""), term("7"), {Op: api.OpTerm, Name: "p", Cmp: 1}, {Op: api.OpTerm, Name: "p", N: 1}, {Op: api.OpTerm, Name: "p", N: 1000001}, {Op: api.OpTerm, Name: "p", Kids: one},
		{Op: api.OpNot}, {Op: api.OpNot, Kids: two}, {Op: api.OpNot, Name: "p", Kids: one}, {Op: api.OpNot, Cmp: 1, Kids: one}, {Op: api.OpNot, N: 1, Kids: one}, {Op: api.OpNot, N: -1, Kids: one},
		{Op: api.OpAnd}, {Op: api.OpAnd, Kids: one}, {Op: api.OpAnd, Name: "p", Kids: two}, {Op: api.OpAnd, Cmp: 1, Kids: two}, {Op: api.OpAnd, N: 1, Kids: two},
		{Op: api.OpOr}, {Op: api.OpOr, Kids: one}, {Op: api.OpOr, Name: "p", Kids: two}, {Op: api.OpOr, Cmp: 1, Kids: two}, {Op: api.OpOr, N: 1, Kids: two},
	} {
		for _, whole := range []api.Formula{f, not(f), and(f, yes()), or(yes(), f), or(yes(), not(and(yes(), f)))} {
			if got := Check(whole, example(), []string{"p", "", "7"}); got != api.ErrArg {
				t.Errorf("%s: %v", textOf(whole), got)
			}
			if Holds(whole, example(), api.Case{20, 1}, []string{"p", "", "7"}) {
				t.Errorf("%s holds", textOf(whole))
			}
		}
	}
}

// P7.1, G1: the numbers of tests are from 0 to 1000000, whatever the bounds of the fact are.
func TestNumbers(t *testing.T) {
	for n, want := range map[int]api.Errno{
		least: api.ErrRange, -1000000: api.ErrRange, -1: api.ErrRange, 0: api.OK, 1: api.OK, 150: api.OK, 151: api.OK, 999999: api.OK, 1000000: api.OK,
		1000001: api.ErrRange, 9999999: api.ErrRange, 1 << 32: api.ErrRange, most: api.ErrRange,
	} {
		for how := 1; how <= 6; how++ {
			for _, name := range []string{"age", "member"} {
				if got := Check(test(name, how, n), example(), nil); got != want {
					t.Errorf("%s %d %d: %v", name, how, n, got)
				}
				if want != api.OK && Holds(not(test(name, how, n)), example(), api.Case{0, 0}, nil) {
					t.Errorf("not %s %d %d holds", name, how, n)
				}
			}
		}
	}
}

// P7.1, G1: names are those of layer 5, also where a fact or a term is called otherwise: each byte, each pair of bytes, and
// all lengths.
func TestNames(t *testing.T) {
	check := func(name string) {
		t.Helper()
		tokens, err, _ := lexer.Lex(name)
		want := api.ErrArg
		if err == api.OK && len(tokens) == 1 && tokens[0].Kind == api.TokName && tokens[0].Text == name {
			want = api.OK
		}
		if got := Check(test(name, 1, 1), domainOf(aFlag(name)), nil); got != want {
			t.Errorf("a fact %q: %v", name, got)
		}
		if got := Check(term(name), api.Domain{}, []string{name}); got != want {
			t.Errorf("a term %q: %v", name, got)
		}
		if got := Holds(term(name), api.Domain{}, nil, []string{name}); got != (want == api.OK) {
			t.Errorf("the term %q holds: %v", name, got)
		}
	}
	for first := range 256 {
		check(string([]byte{byte(first)}))
		for second := range 256 {
			check(string([]byte{byte(first), byte(second)}))
			check(string([]byte{'a', byte(first), byte(second)}))
		}
	}
	for n := range 60 {
		for _, fill := range []string{"a", "Z", "9", "_", "é"} {
			check(strings.Repeat(fill, n))
			check("b" + strings.Repeat(fill, n))
			check("b" + strings.Repeat(fill, n) + " ")
		}
	}
	check("b" + strings.Repeat("a", 20001))
}

// P7.1, G1: names of no fact, and terms that are not in the list.
func TestUnknownNames(t *testing.T) {
	d, terms := example(), []string{"p", "q"}
	for _, test := range []struct {
		f     api.Formula
		d     api.Domain
		terms []string
		want  api.Errno
	}{
		{test("age", 1, 1), d, nil, api.OK}, {test("member", 1, 1), d, nil, api.OK}, {test("income", 1, 1), d, nil, api.ErrName}, {test("Age", 1, 1), d, nil, api.ErrName},
		{test("ag", 1, 1), d, nil, api.ErrName}, {test("agee", 1, 1), d, nil, api.ErrName}, {test("age", 1, 1), api.Domain{}, nil, api.ErrName},
		{test("age", 1, 1), api.Domain{}, []string{"age"}, api.ErrName}, {test("p", 1, 1), d, terms, api.ErrName},
		{term("p"), d, terms, api.OK}, {term("q"), d, terms, api.OK}, {term("r"), d, terms, api.ErrName}, {term("P"), d, terms, api.ErrName}, {term("pq"), d, terms, api.ErrName},
		{term("p"), d, nil, api.ErrName}, {term("p"), d, []string{}, api.ErrName}, {term("age"), d, terms, api.ErrName}, {term("age"), d, []string{"age"}, api.OK},
		{term("p"), d, []string{"q", "p", "p", "q"}, api.OK}, {term("q"), d, []string{"q", "p", "p", "q"}, api.OK}, {term("r"), d, []string{"q", "p", "p", "q"}, api.ErrName},
		{term("p"), api.Domain{}, terms, api.OK}, {term("p"), d, []string{"", "7", "p"}, api.OK}, {term("p"), d, []string{"p ", " p", "p\x00", ""}, api.ErrName},
		{and(term("p"), test("age", 1, 1)), d, terms, api.OK}, {and(term("age"), test("p", 1, 1)), d, []string{"age"}, api.ErrName},
		{yes(), api.Domain{}, nil, api.OK}, {no(), api.Domain{}, nil, api.OK},
	} {
		if got := Check(test.f, test.d, test.terms); got != test.want {
			t.Errorf("%s, %v: %v", textOf(test.f), test.terms, got)
		}
	}
}

// P7.1, G1: Check asks only for the names of the facts of a domain, which need not be valid.
func TestCheckInAnyDomain(t *testing.T) {
	wild := domainOf(aNumber("a", 5, 4), api.Fact{Name: "b", Kind: 9, Lo: -7}, aFlag("a"), api.Fact{}, aFlag("7"))
	many := domainOf(append(slices.Repeat([]api.Fact{aFlag("x")}, 1000), aFlag("last"))...)
	for _, check := range []struct {
		f    api.Formula
		d    api.Domain
		want api.Errno
	}{
		{test("a", 1, 1000000), wild, api.OK}, {test("b", 1, 0), wild, api.OK}, {test("c", 1, 0), wild, api.ErrName}, {test("7", 1, 0), wild, api.ErrArg}, {test("", 1, 0), wild, api.ErrArg},
		{test("last", 1, 0), many, api.OK}, {test("x", 1, 0), many, api.OK}, {test("first", 1, 0), many, api.ErrName}, {test("a", 1, -1), wild, api.ErrRange}, {yes(), wild, api.OK},
	} {
		if got := Check(check.f, check.d, nil); got != check.want {
			t.Errorf("%s: %v", textOf(check.f), got)
		}
	}
}

// P7.1, G1: of several errors the one of the first node counts: a node comes before its kids, and these in their order.
func TestFirstError(t *testing.T) {
	bad := map[api.Errno][]api.Formula{
		api.ErrArg:   {{}, {Op: 8}, test("age", 7, 1), test("7", 1, 1), term("")},
		api.ErrRange: {test("age", 1, -1), test("member", 6, 1000001)},
		api.ErrName:  {test("income", 1, 1), term("q")},
	}
	check := func(want api.Errno, f api.Formula) {
		t.Helper()
		if got := Check(f, example(), []string{"p"}); got != want {
			t.Errorf("%s: %v instead of %v", textOf(f), got, want)
		}
	}
	for first, firsts := range bad {
		for _, a := range firsts {
			check(first, a)
			for _, others := range bad {
				for _, b := range others {
					check(first, and(a, b))
					check(first, or(yes(), not(a), b))
					check(first, and(or(yes(), nots(5, a)), b))
					check(first, or(term("p"), a, and(b, yes())))
					check(first, and(a, b, term("p")))
					check(api.ErrArg, and(or(a), b))
					check(api.ErrArg, api.Formula{Op: api.OpNot, Kids: []api.Formula{a, b}})
					check(api.ErrArg, api.Formula{Op: api.OpAnd, N: 1000001, Kids: []api.Formula{a, b}})
					check(api.ErrArg, api.Formula{Op: api.OpTest, Name: "income", Cmp: 1, N: -1, Kids: []api.Formula{a, b}})
				}
			}
		}
	}
	// In one node ErrArg is named before ErrRange, and this before ErrName.
	check(api.ErrArg, test("income", 7, -1))
	check(api.ErrArg, test("7", 1, -1))
	check(api.ErrArg, test("age", 0, 1000001))
	check(api.ErrArg, test("income", 0, 1))
	check(api.ErrRange, test("income", 1, -1))
	check(api.ErrRange, test("income", 6, 1000001))
	check(api.ErrArg, api.Formula{Op: api.OpTerm, Name: "q", N: -1})
}

// P7.1, G1: any formulas, with mistakes and without.
func TestCheckAsDefined(t *testing.T) {
	w := newWriter(1)
	found := map[api.Errno]int{}
	for range 20000 {
		f := w.anyFormula(of(w, 1, 2, 5, 10, 30, 150, 190, 260))
		d := of(w, small(), domainOf(aFlag("n"), aFlag("a"), aFlag("b")), domainOf(aFlag("a")), domainOf(api.Fact{Name: "a"}, aFlag("7"), aNumber("n", 2, 1)))
		terms := of(w, []string{"p", "q", "r"}, []string{"r", "r", "q", "p", "q"}, []string{"p", "r"}, nil, []string{"a", "", "7", "p", "q", "r", "s"})
		want := modelCheck(f, d, terms)
		found[want]++
		if got := Check(f, d, terms); got != want {
			t.Fatalf("%s, %v, %v: %v instead of %v", textOf(f), d, terms, got, want)
		}
	}
	for _, err := range []api.Errno{api.OK, api.ErrLimit, api.ErrArg, api.ErrRange, api.ErrName} {
		if found[err] < 100 {
			t.Errorf("only %d formulas with %v", found[err], err)
		}
	}
}
