package formula

import (
	"slices"
	"strconv"
	"strings"
	"sync"
	"testing"

	"pandect/api"
)

// P7.1: the examples of the chapter.
func TestExamples(t *testing.T) {
	d, c := example(), api.Case{20, 0}
	f := and(test("age", api.CmpAtLeast, 18), not(test("member", api.CmpEqual, 1)))
	if !Holds(f, d, c, nil) {
		t.Error("a person of 20 is of 18 years or more, and no member")
	}
	if size, depth := Size(f); size != 4 || depth != 3 {
		t.Error(size, depth)
	}
	adult := term("adult")
	if !Holds(adult, d, c, []string{"adult"}) || Holds(adult, d, c, nil) {
		t.Error("the term adult")
	}
	if Holds(Expand(adult, "adult", test("age", api.CmpLess, 18)), d, c, []string{"adult"}) {
		t.Error("a person of 20 is less than 18")
	}
	if got := Check(test("age", api.CmpEqual, 1000001), d, nil); got != api.ErrRange {
		t.Error(got)
	}
}

// P7.1, G2: all small formulas for all cases and all lists of terms.
func TestHoldsAsDefined(t *testing.T) {
	d := small()
	cases, lists := casesOf(d), append(subsets("p", "q"), []string{"r", "q", "q", "s"})
	held := 0
	for _, f := range smallFormulas(4) {
		for _, c := range cases {
			for _, terms := range lists {
				want := modelHolds(f, d, c, terms)
				if want {
					held++
				}
				if got := Holds(f, d, c, terms); got != want {
					t.Fatalf("%s, %v, %v: %v", textOf(f), c, terms, got)
				}
			}
		}
	}
	if held < 5000 {
		t.Errorf("%d formulas held", held)
	}
}

// P7.1, G2: any formulas, with mistakes and without, for cases that fit or do not.
func TestAnyFormulaHolds(t *testing.T) {
	w := newWriter(2)
	held := 0
	for range 20000 {
		d := of(w, small(), domainOf(aNumber("n", 1, 2), aFlag("b"), aFlag("a")), domainOf(aFlag("a")))
		c := of(w, casesOf(d)...)
		if w.IntN(8) == 0 {
			c = of(w, c[1:], append(c, 0), append(api.Case{-1}, c[1:]...), append(api.Case{4}, c[1:]...), nil)
		}
		f := w.anyFormula(of(w, 1, 2, 5, 10, 30, 150, 190, 260))
		terms := of(w, []string{"p", "q", "r"}, []string{"r", "r"}, nil, []string{"a", "", "7", "q", "s"})
		want := modelHolds(f, d, c, terms)
		if want {
			held++
		}
		if got := Holds(f, d, c, terms); got != want {
			t.Fatalf("%s, %v, %v, %v: %v", textOf(f), d, c, terms, got)
		}
	}
	if held < 2000 || held > 14000 {
		t.Errorf("%d of 20000 formulas held", held)
	}
}

// P7.1, G2: no formula holds in a domain that is not valid, or for a case that does not fit.
func TestHoldsNowhere(t *testing.T) {
	sixty := make([]api.Fact, 61)
	for i := range sixty {
		sixty[i] = aFlag("f" + strconv.Itoa(i))
	}
	for _, test := range []struct {
		d    api.Domain
		c    api.Case
		want bool
	}{
		{api.Domain{}, nil, true}, {api.Domain{}, api.Case{}, true}, {api.Domain{}, api.Case{0}, false},
		{example(), api.Case{0, 0}, true}, {example(), api.Case{150, 1}, true}, {example(), api.Case{151, 1}, false}, {example(), api.Case{-1, 1}, false},
		{example(), api.Case{20, 2}, false}, {example(), api.Case{20, -1}, false}, {example(), api.Case{20}, false}, {example(), api.Case{20, 1, 0}, false}, {example(), nil, false},
		{domainOf(aFlag("a"), aFlag("a")), api.Case{0, 0}, false}, {domainOf(aNumber("a", 2, 1)), api.Case{1}, false}, {domainOf(aFlag("7")), api.Case{0}, false},
		{domainOf(api.Fact{Name: "a", Kind: 4, Hi: 1}), api.Case{0}, false}, {domainOf(aNumber("a", 0, 1000001)), api.Case{0}, false},
		{domainOf(sixty[:60]...), make(api.Case, 60), true}, {domainOf(sixty...), make(api.Case, 61), false},
	} {
		for _, f := range []api.Formula{yes(), not(no()), term("p"), not(term("q")), or(no(), term("p")), and(yes(), yes())} {
			if got := Holds(f, test.d, test.c, []string{"p"}); got != test.want {
				t.Errorf("%s, %v, %v: %v", textOf(f), test.d, test.c, got)
			}
		}
	}
}

// P7.1, G2: a formula that is not well-formed does not hold, nor does its negation; terms need not be in the list.
func TestHoldsIfWellFormed(t *testing.T) {
	d, c := example(), api.Case{20, 1}
	for _, f := range []api.Formula{
		{}, {Op: 8}, test("income", 1, 1), test("age", 1, 1000001), test("age", 6, -1), test("age", 7, 20), test("age", 0, 20), term("7"), and(yes()), or(yes()), and(), or(), {Op: api.OpNot},
		{Op: api.OpTrue, N: 1}, {Op: api.OpNot, Kids: repeated(2, no())}, nots(20, yes()), and(repeated(200, yes())...),
	} {
		for _, whole := range []api.Formula{f, not(f), or(yes(), f), or(f, yes()), not(and(no(), f)), not(and(f, no()))} {
			if Holds(whole, d, c, []string{"7"}) {
				t.Errorf("%s holds", brief(whole))
			}
		}
	}
	for _, f := range []api.Formula{not(term("p")), or(term("p"), yes()), not(and(yes(), term("p")))} {
		if !Holds(f, d, c, nil) || !Holds(f, d, c, []string{"q"}) {
			t.Errorf("%s does not hold", textOf(f))
		}
	}
}

// P7.1, G3: the terms of formulas in order, of those as well that are not well-formed.
func TestTerms(t *testing.T) {
	odd := api.Formula{Op: api.OpTerm, Name: "x", Kids: []api.Formula{term("y"), {Op: 9, Name: "z", Kids: []api.Formula{term("")}}, term("x")}}
	for _, check := range []struct {
		f    api.Formula
		want []string
	}{
		{yes(), nil}, {test("p", 1, 1), nil}, {api.Formula{}, nil}, {api.Formula{Op: 9, Name: "p"}, nil},
		{term("p"), []string{"p"}}, {not(term("p")), []string{"p"}}, {and(term("p"), term("q")), []string{"p", "q"}}, {and(term("q"), term("p")), []string{"q", "p"}},
		{or(term("p"), term("q"), term("p"), term("q")), []string{"p", "q"}}, {or(and(yes(), term("r")), term("q"), not(term("p")), term("r")), []string{"r", "q", "p"}},
		{or(test("p", 1, 1), term("q"), test("r", 1, 1)), []string{"q"}}, {odd, []string{"x", "y", ""}}, {and(term("y"), odd), []string{"y", "x", ""}}, {term("7 !"), []string{"7 !"}},
		{api.Formula{Op: api.OpTrue, Kids: []api.Formula{term("p")}}, []string{"p"}}, {nots(100, term("p")), []string{"p"}}, {and(append(repeated(500, term("p")), term("q"))...), []string{"p", "q"}},
		{and(term("p"), term("P"), term("pp")), []string{"p", "P", "pp"}},
	} {
		if got := Terms(check.f); !slices.Equal(got, check.want) {
			t.Errorf("%s: %q", brief(check.f), got)
		}
	}
	w := newWriter(3)
	for range 20000 {
		f := w.anyFormula(of(w, 1, 3, 10, 40, 300))
		if got, want := Terms(f), modelTerms(f); !slices.Equal(got, want) {
			t.Fatalf("%s: %q instead of %q", textOf(f), got, want)
		}
	}
	var many []api.Formula
	for i := range 5000 {
		many = append(many, term("t"+strconv.Itoa(i)))
	}
	if got := Terms(or(or(many...), and(slices.Concat(many, many)...))); len(got) != 5000 || got[4999] != "t4999" {
		t.Errorf("%d terms", len(got))
	}
}

// P7.1, G3: what stands in place of terms, in formulas that are not well-formed as well.
func TestExpand(t *testing.T) {
	p, q, age := term("p"), term("q"), test("age", 5, 3)
	odd := api.Formula{Op: 9, Name: "p", Cmp: -1, N: 7, Kids: []api.Formula{p, {}}}
	for _, check := range []struct {
		f    api.Formula
		name string
		by   api.Formula
		want api.Formula
	}{
		{p, "p", age, age}, {p, "q", age, p}, {yes(), "p", age, yes()}, {test("p", 1, 1), "p", age, test("p", 1, 1)}, {api.Formula{}, "", age, api.Formula{}},
		{and(p, q, p), "p", age, and(age, q, age)}, {not(not(p)), "p", or(q, age), not(not(or(q, age)))}, {or(and(p, yes()), not(p), q), "p", no(), or(and(no(), yes()), not(no()), q)},
		{and(p, q), "p", p, and(p, q)}, {and(p, q), "p", not(p), and(not(p), q)}, {and(p, q), "p", and(p, p), and(and(p, p), q)}, {and(p, q), "p", q, and(q, q)}, {and(p, q), "q", p, and(p, p)},
		{and(p, p), "p", and(q, not(p)), and(and(q, not(p)), and(q, not(p)))}, {p, "p", odd, odd}, {odd, "p", q, api.Formula{Op: 9, Name: "p", Cmp: -1, N: 7, Kids: []api.Formula{q, {}}}},
		{p, "p", api.Formula{}, api.Formula{}}, {and(p), "p", api.Formula{}, and(api.Formula{})}, {term(""), "", age, age}, {term("7"), "7", age, age}, {term("p"), "P", age, p}, {term("pp"), "p", age, term("pp")},
		{api.Formula{Op: api.OpTerm, Name: "p", Cmp: 1, N: 2}, "p", age, age}, {api.Formula{Op: api.OpTerm, Name: "p", Kids: []api.Formula{p, q}}, "p", age, age},
		{api.Formula{Op: api.OpTerm, Name: "p", Kids: []api.Formula{p, q}}, "q", age, api.Formula{Op: api.OpTerm, Name: "p", Kids: []api.Formula{p, age}}},
		{api.Formula{Op: api.OpTrue, N: 1, Kids: []api.Formula{p}}, "p", age, api.Formula{Op: api.OpTrue, N: 1, Kids: []api.Formula{age}}},
		{and(repeated(300, p)...), "p", nots(30, q), and(repeated(300, nots(30, q))...)}, {nots(50, p), "p", nots(50, p), nots(100, p)},
	} {
		if got := Expand(check.f, check.name, check.by); textOf(got) != textOf(check.want) {
			t.Errorf("%s, %q, %s: %s", brief(check.f), check.name, brief(check.by), brief(got))
		}
	}
	for _, f := range smallFormulas(4) {
		for _, by := range []api.Formula{yes(), p, q, and(p, q, p), not(test("n", 2, 1))} {
			if got, want := textOf(Expand(f, "p", by)), modelExpand(f, "p", by); got != want {
				t.Fatalf("%s, %s: %s", textOf(f), textOf(by), got)
			}
		}
	}
}

// P7.1, G3: sizes and depths of any formulas.
func TestSize(t *testing.T) {
	for _, check := range []struct {
		f           api.Formula
		size, depth int
	}{
		{api.Formula{}, 1, 1}, {yes(), 1, 1}, {term("p"), 1, 1}, {not(yes()), 2, 2}, {and(yes(), no()), 3, 2}, {and(yes(), not(no())), 4, 3}, {and(not(yes()), no()), 4, 3},
		{or(), 1, 1}, {or(yes()), 2, 2}, {api.Formula{Op: api.OpTerm, Name: "p", Kids: repeated(3, not(yes()))}, 7, 3}, {api.Formula{Kids: []api.Formula{{}, {}}}, 3, 2},
		{and(nots(4, yes()), or(yes(), yes(), not(no())), yes()), 12, 6}, {wide(200), 200, 2}, {wide(201), 201, 2}, {deep(20, 20), 20, 20}, {deep(21, 21), 21, 21}, {deep(300, 30), 300, 30},
	} {
		if size, depth := Size(check.f); size != check.size || depth != check.depth {
			t.Errorf("%s: %d, %d", brief(check.f), size, depth)
		}
	}
	w := newWriter(4)
	for range 20000 {
		f := w.anyFormula(of(w, 1, 3, 10, 40, 300))
		size, depth := Size(f)
		if wantSize, wantDepth := modelSize(f); size != wantSize || depth != wantDepth {
			t.Fatalf("%s: %d, %d", textOf(f), size, depth)
		}
	}
}

// P7.1, G3: formulas are the same exactly if all fields of all nodes are.
func TestSame(t *testing.T) {
	all := append(smallFormulas(3), oddFormulas()...)
	for i, a := range all {
		for j, b := range all {
			if got := Same(a, cloned(b)); got != (i == j) {
				t.Errorf("%s, %s: %v", brief(a), brief(b), got)
			}
		}
	}
	changes := []func(*api.Formula){
		func(f *api.Formula) { f.Op++ }, func(f *api.Formula) { f.Op = -f.Op - 1 }, func(f *api.Formula) { f.Name += "x" }, func(f *api.Formula) { f.Name = " " + f.Name }, func(f *api.Formula) { f.Cmp++ },
		func(f *api.Formula) { f.Cmp-- }, func(f *api.Formula) { f.N++ }, func(f *api.Formula) { f.N += 1 << 32 }, func(f *api.Formula) { f.Kids = append(f.Kids, yes()) },
		func(f *api.Formula) { f.Kids = append([]api.Formula{{}}, f.Kids...) }, func(f *api.Formula) { *f = not(*f) },
	}
	w := newWriter(5)
	for range 300 {
		f := w.anyFormula(of(w, 1, 3, 10, 20))
		if !Same(f, cloned(f)) || !Same(cloned(f), f) || !Same(f, f) {
			t.Fatalf("%s is not the same", textOf(f))
		}
		for i := range modelPlaces(f) {
			for j, change := range changes {
				if other := changed(f, i, change); Same(f, other) || Same(other, f) {
					t.Fatalf("%s after the change %d of node %d: the same", textOf(f), j, i)
				}
			}
		}
	}
}

// P7.2: negations, conjunctions and disjunctions of all pairs of small formulas, in both orders.
func TestConnectives(t *testing.T) {
	d := small()
	for _, c := range casesOf(d) {
		for _, terms := range subsets("p", "q") {
			holds := func(f api.Formula) bool { return Holds(f, d, c, terms) }
			formulas := smallFormulas(3)
			if len(terms) == 1 {
				formulas = smallFormulas(2)
			}
			for _, a := range formulas {
				if holds(not(a)) == holds(a) || holds(not(not(a))) != holds(a) {
					t.Fatalf("not %s, %v, %v", textOf(a), c, terms)
				}
				for _, b := range formulas {
					both, one := holds(a) && holds(b), holds(a) || holds(b)
					if holds(and(a, b)) != both || holds(and(b, a)) != both || holds(or(a, b)) != one || holds(or(b, a)) != one {
						t.Fatalf("%s, %s, %v, %v", textOf(a), textOf(b), c, terms)
					}
					if holds(not(and(a, b))) != holds(or(not(a), not(b))) || holds(not(or(a, b))) != holds(and(not(a), not(b))) {
						t.Fatalf("negations of %s, %s, %v, %v", textOf(a), textOf(b), c, terms)
					}
				}
			}
		}
	}
}

// P7.2: conjunctions and disjunctions of several kids, in any order.
func TestOrderOfKids(t *testing.T) {
	w := newWriter(6)
	d := small()
	for range 5000 {
		c, terms := of(w, casesOf(d)...), of(w, subsets("p", "q", "r")...)
		kids := make([]api.Formula, 2+w.IntN(5))
		all, some := true, false
		for i := range kids {
			kids[i] = w.formula(1 + w.IntN(12))
			holds := Holds(kids[i], d, c, terms)
			all, some = all && holds, some || holds
		}
		for range 5 {
			if Holds(and(kids...), d, c, terms) != all || Holds(or(kids...), d, c, terms) != some {
				t.Fatalf("%s, %v, %v", textOf(and(kids...)), c, terms)
			}
			w.Shuffle(len(kids), func(i, j int) { kids[i], kids[j] = kids[j], kids[i] })
		}
	}
}

// P7.3: the six comparisons are related as those of numbers are: values just below, at and above the number, and at the
// bounds of values.
func TestComparisons(t *testing.T) {
	values := []int{0, 1, 2, 17, 18, 19, 149, 150, 999999, 1000000}
	d := domainOf(aFlag("member"), aNumber("age", 0, 1000000), api.Fact{Name: "since", Kind: api.FactDay, Lo: 0, Hi: 1000000})
	for _, name := range []string{"age", "since"} {
		for _, value := range values {
			c := api.Case{1, value, 500}
			if name == "since" {
				c = api.Case{1, 500, value}
			}
			for _, n := range values {
				holds := func(how int) bool { return Holds(test(name, how, n), d, c, nil) }
				if holds(api.CmpEqual) != (value == n) || holds(api.CmpUnlike) != (value != n) || holds(api.CmpLess) != (value < n) ||
					holds(api.CmpAtMost) != (value <= n) || holds(api.CmpMore) != (value > n) || holds(api.CmpAtLeast) != (value >= n) {
					t.Errorf("%s %d and %d", name, value, n)
				}
				if holds(api.CmpEqual) == holds(api.CmpUnlike) || holds(api.CmpLess) == holds(api.CmpAtLeast) || holds(api.CmpMore) == holds(api.CmpAtMost) ||
					holds(api.CmpAtMost) != (holds(api.CmpLess) || holds(api.CmpEqual)) || holds(api.CmpAtLeast) != (holds(api.CmpMore) || holds(api.CmpEqual)) || holds(api.CmpLess) && holds(api.CmpMore) {
					t.Errorf("relations of %s %d and %d", name, value, n)
				}
			}
		}
	}
	for _, member := range []int{0, 1} {
		for n := range 3 {
			for how := 1; how <= 6; how++ {
				got := Holds(test("member", how, n), d, api.Case{member, 5, 5}, nil)
				if want := slices.Contains(modelSigns(how), signOf(member-n)); got != want {
					t.Errorf("member %d, %d, %d: %v", member, how, n, got)
				}
			}
		}
	}
}

func signOf(n int) int { return max(-1, min(1, n)) }

// P7.3: a less number is passed by all values that pass a greater one: greater numbers make CmpLess and CmpAtMost weaker,
// and CmpMore and CmpAtLeast stronger.
func TestMonotoneComparisons(t *testing.T) {
	d := domainOf(aNumber("n", 3, 9))
	for value := 3; value <= 9; value++ {
		holds := func(how, n int) bool { return Holds(test("n", how, n), d, api.Case{value}, nil) }
		for n := range 12 {
			if holds(api.CmpLess, n) && !holds(api.CmpLess, n+1) || holds(api.CmpAtMost, n) && !holds(api.CmpAtMost, n+1) {
				t.Errorf("%d is less than %d only", value, n)
			}
			if holds(api.CmpMore, n+1) && !holds(api.CmpMore, n) || holds(api.CmpAtLeast, n+1) && !holds(api.CmpAtLeast, n) {
				t.Errorf("%d is more than %d only", value, n+1)
			}
			if holds(api.CmpLess, n+1) != holds(api.CmpAtMost, n) || holds(api.CmpMore, n) != holds(api.CmpAtLeast, n+1) {
				t.Errorf("%d between %d and %d", value, n, n+1)
			}
		}
	}
}

// P7.4: an expanded formula holds exactly if the formula does with the term in the list, or not, as its definition holds.
func TestExpansion(t *testing.T) {
	w := newWriter(7)
	d := small()
	check := func(f api.Formula, name string, by api.Formula, c api.Case, terms []string) {
		t.Helper()
		assumed := slices.DeleteFunc(slices.Clone(terms), func(term string) bool { return term == name })
		if Holds(by, d, c, terms) {
			assumed = append(assumed, name)
		}
		if got, want := Holds(Expand(f, name, by), d, c, terms), Holds(f, d, c, assumed); got != want {
			t.Fatalf("%s, %s, %s, %v, %v: %v", textOf(f), name, textOf(by), c, terms, got)
		}
	}
	for _, f := range smallFormulas(3) {
		for _, by := range smallFormulas(2) {
			for _, c := range []api.Case{{0, 1}, {1, 3}} {
				for _, terms := range subsets("p", "q") {
					check(f, "p", by, c, terms)
				}
			}
		}
	}
	for range 20000 {
		f, by := w.formula(1+w.IntN(12)), w.formula(1+w.IntN(12))
		check(f, of(w, "p", "q", "r", "s"), by, of(w, casesOf(d)...), of(w, subsets("p", "q", "r")...))
	}
}

// P7.5: the order of terms, their repetitions, and terms that do not occur make no difference, nor do facts that are not
// named, their order and their values.
func TestWhatMatters(t *testing.T) {
	w := newWriter(8)
	d := small()
	for range 10000 {
		f := w.formula(of(w, 1, 2, 5, 20))
		c, terms := of(w, casesOf(d)...), of(w, subsets("p", "q", "r")...)
		want, wantError := Holds(f, d, c, terms), Check(f, d, terms)
		others := append(slices.Concat(terms, terms), "s", "a", "n", "", "7", " p")
		w.Shuffle(len(others), func(i, j int) { others[i], others[j] = others[j], others[i] })
		if Holds(f, d, c, others) != want || Check(f, d, others) != wantError {
			t.Fatalf("%s, %v, %v and %v", textOf(f), c, terms, others)
		}
		occur := slices.DeleteFunc(slices.Clone(terms), func(term string) bool { return !slices.Contains(Terms(f), term) })
		if Holds(f, d, c, occur) != want || Check(f, d, occur) != wantError {
			t.Fatalf("%s, %v, %v and %v", textOf(f), c, terms, occur)
		}
		further := domainOf(aFlag("b"), d.Facts[1], aNumber("m", 5, 9), d.Facts[0], aFlag("p"))
		if Holds(f, further, api.Case{w.IntN(2), c[1], 5 + w.IntN(5), c[0], w.IntN(2)}, terms) != want || Check(f, further, terms) != wantError {
			t.Fatalf("%s, %v, %v in a further domain", textOf(f), c, terms)
		}
		for i, name := range []string{"a", "n"} {
			named := slices.ContainsFunc(modelPlaces(f), func(p place) bool { return p.node.Op == api.OpTest && p.node.Name == name })
			if named {
				continue
			}
			other := slices.Clone(c)
			other[i] = 1 - min(c[i], 1)
			rest := domainOf(d.Facts[1-i])
			if Holds(f, d, other, terms) != want || Holds(f, rest, api.Case{c[1-i]}, terms) != want || Check(f, rest, terms) != wantError {
				t.Fatalf("%s, %v, %v: %s matters", textOf(f), c, terms, name)
			}
		}
	}
}

// P7.6: a size is one more than those of the kids, a depth one more than the greatest of theirs, and expanding replaces one
// node for each occurrence.
func TestSizesOfParts(t *testing.T) {
	w := newWriter(9)
	all := append(smallFormulas(4), oddFormulas()...)
	for range 3000 {
		all = append(all, w.formula(w.IntN(300)), w.anyFormula(w.IntN(100)))
	}
	for _, f := range all {
		size, depth := 1, 0
		for _, kid := range f.Kids {
			kidSize, kidDepth := Size(kid)
			size, depth = size+kidSize, max(depth, kidDepth)
		}
		if gotSize, gotDepth := Size(f); gotSize != size || gotDepth != depth+1 {
			t.Fatalf("%s: %d, %d", brief(f), gotSize, gotDepth)
		}
	}
	for range 5000 {
		f, by, name := w.formula(w.IntN(60)), w.formula(w.IntN(60)), of(w, "p", "q", "s")
		size, _ := Size(f)
		bySize, byDepth := Size(by)
		occurrences := strings.Count(textOf(f), textOf(term(name)))
		depth := 0
		for _, p := range modelPlaces(f) {
			depth = max(depth, p.depth)
			if p.node.Op == api.OpTerm && p.node.Name == name {
				depth = max(depth, p.depth-1+byDepth)
			}
		}
		if gotSize, gotDepth := Size(Expand(f, name, by)); gotSize != size+occurrences*(bySize-1) || gotDepth != depth {
			t.Fatalf("%s, %s, %s: %d, %d", textOf(f), name, textOf(by), gotSize, gotDepth)
		}
	}
}

// P7.7: the kids of a well-formed formula are well-formed, and with a node that is not, a formula is not.
func TestParts(t *testing.T) {
	w := newWriter(10)
	d, terms := small(), []string{"p", "q", "r"}
	bad := []api.Formula{{}, {Op: 8}, and(yes()), or(), {Op: api.OpNot}, test("a", 0, 1), test("n", 1, 1000001), test("b", 1, 1), term("7"), {Op: api.OpTrue, Cmp: 1}, {Op: api.OpTerm, Name: "p", Kids: repeated(1, yes())}}
	for range 1500 {
		f := w.formula(of(w, 1, 3, 10, 30, 100))
		if got := Check(f, d, terms); got != api.OK {
			t.Fatalf("%s: %v", textOf(f), got)
		}
		for i, p := range modelPlaces(f) {
			if got := Check(p.node, d, terms); got != api.OK {
				t.Fatalf("%s: node %d: %v", textOf(f), i, got)
			}
			node := of(w, bad...)
			whole := with(f, i, node)
			if got, want := Check(whole, d, terms), Check(node, d, terms); got != want || got == api.OK {
				t.Fatalf("%s: %v instead of %v", textOf(whole), got, want)
			}
			if c := of(w, casesOf(d)...); Holds(whole, d, c, terms) || Holds(not(whole), d, c, terms) {
				t.Fatalf("%s or its negation holds for %v", textOf(whole), c)
			}
		}
	}
}

// P7.8, P3: equal formulas, and equal arguments, are the same in all functions, wherever they are in memory, and nil is as
// good as an empty slice.
func TestEqualFormulas(t *testing.T) {
	w := newWriter(11)
	all := append(smallFormulas(3), oddFormulas()...)
	for range 3000 {
		all = append(all, w.anyFormula(of(w, 1, 3, 10, 50)))
	}
	empty := func(l []string) []string { return append([]string{}, l...) }
	for _, f := range all {
		g := cloned(f)
		d, c, terms := small(), of(w, casesOf(small())...), of(w, subsets("p", "q", "r")...)
		e := api.Domain{Facts: slices.Clone(d.Facts)}
		size, depth := Size(f)
		otherSize, otherDepth := Size(g)
		if !Same(f, g) || size != otherSize || depth != otherDepth || !slices.Equal(Terms(f), Terms(g)) {
			t.Fatalf("%s: not the same", textOf(f))
		}
		if Check(f, d, terms) != Check(g, e, empty(terms)) || Holds(f, d, c, terms) != Holds(g, e, slices.Clone(c), empty(terms)) {
			t.Fatalf("%s, %v, %v: not the same", textOf(f), c, terms)
		}
		if by := of(w, all...); textOf(Expand(f, "p", by)) != textOf(Expand(g, "p", cloned(by))) {
			t.Fatalf("%s, %s: not the same", textOf(f), textOf(by))
		}
		for other := range all[:50] {
			if Same(f, all[other]) != Same(g, all[other]) || Same(all[other], f) != Same(all[other], g) {
				t.Fatalf("%s, %s: not the same", textOf(f), textOf(all[other]))
			}
		}
	}
}

// P7.8: expanding a term by itself changes nothing, nor does expanding a name that is no term of the formula.
func TestExpandByItself(t *testing.T) {
	w := newWriter(12)
	all := append(smallFormulas(4), wide(300), nots(50, term("p")))
	for range 3000 {
		all = append(all, w.formula(w.IntN(100)))
	}
	for _, f := range all {
		for _, name := range []string{"p", "q", "r", "a", "n", ""} {
			if got := Expand(f, name, term(name)); !Same(got, f) || textOf(got) != textOf(f) {
				t.Fatalf("%s, %q: %s", textOf(f), name, textOf(got))
			}
		}
	}
	for _, f := range oddFormulas() {
		for _, name := range []string{"s", "x", "P"} {
			if got := Expand(f, name, yes()); textOf(got) != textOf(f) {
				t.Fatalf("%s, %q: %s", brief(f), name, brief(got))
			}
		}
	}
}

// P7.1 (DOC.md, Rules): no function modifies its arguments, not even what lies behind the ends of slices.
func TestArgumentsAreNotModified(t *testing.T) {
	w := newWriter(13)
	// spare returns a formula whose lists have room behind their ends.
	var spare func(f api.Formula) api.Formula
	spare = func(f api.Formula) api.Formula {
		kids := make([]api.Formula, 0, len(f.Kids)+2)
		for _, kid := range f.Kids {
			kids = append(kids, spare(kid))
		}
		f.Kids = kids
		return f
	}
	all := append(smallFormulas(3), oddFormulas()...)
	for range 2000 {
		all = append(all, w.anyFormula(of(w, 1, 5, 20)))
	}
	for _, f := range all {
		f, by, d := spare(f), spare(of(w, all...)), domainOf(append(make([]api.Fact, 0, 4), small().Facts...)...)
		c, terms := append(make(api.Case, 0, 4), 1, 2), append(make([]string, 0, 4), "q", "p", "q")
		was, byWas, factsWere := textOf(f), textOf(by), slices.Clone(d.Facts)
		Check(f, d, terms)
		Holds(f, d, c, terms)
		Size(f)
		Same(f, by)
		_ = append(Terms(f), "x")
		_ = Expand(f, "p", by)
		if textOf(f) != was || textOf(by) != byWas || !slices.Equal(d.Facts, factsWere) || !slices.Equal(c, api.Case{1, 2}) || !slices.Equal(terms, []string{"q", "p", "q"}) {
			t.Fatalf("%s, %s: changed to %s, %s", was, byWas, textOf(f), textOf(by))
		}
		if terms[:4][3] != "" || c[:4][2] != 0 || d.Facts[:4][2] != (api.Fact{}) {
			t.Fatalf("%s: behind the ends", was)
		}
		for _, node := range pointers(&f) {
			if extra := node.Kids[:cap(node.Kids)][len(node.Kids):]; len(extra) > 0 && textOf(extra[0]) != textOf(api.Formula{}) {
				t.Fatalf("%s: behind the ends of kids", was)
			}
		}
	}
}

// P7.1 (DOC.md, Rules): an expanded formula shares memory with no argument, and its parts share none with each other.
func TestExpandMakesNewMemory(t *testing.T) {
	w := newWriter(14)
	for range 3000 {
		f, by := w.anyFormula(of(w, 1, 5, 20)), w.anyFormula(of(w, 1, 5, 20))
		name := of(w, "p", "q", "s")
		was, byWas := textOf(f), textOf(by)
		got := Expand(f, name, by)
		text := textOf(got)
		for i, node := range pointers(&got) {
			old := *node
			node.Op, node.Name, node.Kids = 77, "changed", append(node.Kids[:len(node.Kids):len(node.Kids)], yes())
			if textOf(f) != was || textOf(by) != byWas {
				t.Fatalf("%s, %s, %s: node %d is shared with an argument", was, name, byWas, i)
			}
			if n := strings.Count(textOf(got), `(77 "changed"`); n != 1 {
				t.Fatalf("%s, %s, %s: node %d stands in %d places", was, name, byWas, i, n)
			}
			*node = old
		}
		for _, argument := range []*api.Formula{&f, &by} {
			for _, node := range pointers(argument) {
				node.Op, node.Kids = 78, append(node.Kids[:0], node.Kids...)
			}
		}
		if textOf(got) != text {
			t.Fatalf("%s, %s, %s: later changes of the arguments are seen", was, name, byWas)
		}
	}
	terms := Terms(and(term("p"), term("q")))
	terms[0] = "x"
	if again := Terms(and(term("p"), term("q"))); !slices.Equal(again, []string{"p", "q"}) {
		t.Error(again)
	}
}

// P1: deep and wide formulas end, and those that are far beyond the limits are refused without looking at all of them.
func TestHugeFormulas(t *testing.T) {
	const levels = 1 << 16
	tower := nots(levels-1, term("p"))
	if size, depth := Size(tower); size != levels || depth != levels {
		t.Error(size, depth)
	}
	if got := Terms(tower); !slices.Equal(got, []string{"p"}) {
		t.Error(got)
	}
	expanded := Expand(tower, "p", yes())
	if size, depth := Size(expanded); size != levels || depth != levels || Same(expanded, tower) || !Same(expanded, nots(levels-1, yes())) {
		t.Error(size, depth)
	}
	plain := or(repeated(1000000, term("p"))...)
	if size, depth := Size(Expand(plain, "p", not(no()))); size != 2000001 || depth != 3 {
		t.Error(size, depth)
	}
	// Each level stands twice in the next one: as a tree, it has 2^64 - 1 nodes.
	doubled := term("p")
	for range 63 {
		doubled = and(doubled, doubled)
	}
	broad := and(yes(), yes())
	for range 8 {
		broad = and(repeated(1000, broad)...)
	}
	for _, f := range []api.Formula{tower, plain, doubled, broad} {
		if got := Check(f, api.Domain{}, []string{"p"}); got != api.ErrLimit {
			t.Error(got)
		}
		if Holds(f, api.Domain{}, nil, []string{"p"}) {
			t.Error("a formula that is too great holds")
		}
	}
}

// P1: zero values of all arguments.
func TestZeroValues(t *testing.T) {
	var f api.Formula
	if Check(f, api.Domain{}, nil) != api.ErrArg || Holds(f, api.Domain{}, nil, nil) || Terms(f) != nil || !Same(f, f) {
		t.Error("the zero formula")
	}
	if got := Expand(f, "", f); !Same(got, f) {
		t.Error(got)
	}
	if size, depth := Size(f); size != 1 || depth != 1 {
		t.Error(size, depth)
	}
}

// P3: calls at the same time do not disturb each other.
func TestIndependence(t *testing.T) {
	w := newWriter(15)
	d := small()
	var all []api.Formula
	for range 200 {
		all = append(all, w.anyFormula(20))
	}
	results := func() string {
		text := ""
		for _, f := range all {
			size, depth := Size(f)
			text += strconv.Itoa(size) + " " + strconv.Itoa(depth) + strconv.Itoa(int(Check(f, d, []string{"p"}))) + strconv.FormatBool(Holds(f, d, api.Case{1, 2}, []string{"p"}))
			text += strings.Join(Terms(f), ",") + textOf(Expand(f, "p", all[0])) + strconv.FormatBool(Same(f, all[1]))
		}
		return text
	}
	want := results()
	var group sync.WaitGroup
	for range 8 {
		group.Go(func() {
			if results() != want {
				t.Error("results differ")
			}
		})
	}
	group.Wait()
}

// BenchmarkHolds shows what a condition of an ordinary size takes.
func BenchmarkHolds(b *testing.B) {
	d := domainOf(aNumber("age", 0, 150), aFlag("member"), aNumber("income", 0, 1000000), aFlag("student"))
	f := and(test("age", 6, 18), not(test("member", 1, 1)), or(test("income", 3, 5000), term("poor"), test("student", 1, 1)))
	for b.Loop() {
		Holds(f, d, api.Case{20, 0, 9000, 1}, []string{"adult", "poor"})
	}
}
