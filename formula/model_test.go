package formula

import (
	"cmp"
	"fmt"
	"math/rand/v2"
	"regexp"
	"slices"
	"strings"

	"pandect/api"
)

// The models come to the same results in other ways than package formula: nodes are collected with a stack, a regular
// expression says which nodes are well-formed, truth is the number 0 or 1, comparisons are lists of signs, and terms are
// replaced in texts of formulas.

const (
	most  = int(^uint(0) >> 1)
	least = -most - 1
)

func yes() api.Formula              { return api.Formula{Op: api.OpTrue} }
func no() api.Formula               { return api.Formula{Op: api.OpFalse} }
func term(name string) api.Formula  { return api.Formula{Op: api.OpTerm, Name: name} }
func not(f api.Formula) api.Formula { return api.Formula{Op: api.OpNot, Kids: []api.Formula{f}} }

func test(name string, how, n int) api.Formula {
	return api.Formula{Op: api.OpTest, Name: name, Cmp: how, N: n}
}

func and(kids ...api.Formula) api.Formula { return api.Formula{Op: api.OpAnd, Kids: kids} }

func or(kids ...api.Formula) api.Formula { return api.Formula{Op: api.OpOr, Kids: kids} }

// nots returns a formula with n negations around it.
func nots(n int, f api.Formula) api.Formula {
	for range n {
		f = not(f)
	}
	return f
}

// repeated returns a formula n times.
func repeated(n int, f api.Formula) []api.Formula { return slices.Repeat([]api.Formula{f}, n) }

func aFlag(name string) api.Fact { return api.Fact{Name: name, Kind: api.FactFlag, Lo: 0, Hi: 1} }

func aNumber(name string, lo, hi int) api.Fact {
	return api.Fact{Name: name, Kind: api.FactNumber, Lo: lo, Hi: hi}
}

func domainOf(facts ...api.Fact) api.Domain { return api.Domain{Facts: facts} }

// example is the domain of the chapter's examples.
func example() api.Domain { return domainOf(aNumber("age", 0, 150), aFlag("member")) }

// small is a domain with few cases.
func small() api.Domain { return domainOf(aFlag("a"), aNumber("n", 0, 3)) }

// casesOf returns all cases of a domain, in order.
func casesOf(d api.Domain) []api.Case {
	all := []api.Case{{}}
	for _, f := range d.Facts {
		var longer []api.Case
		for _, c := range all {
			for n := f.Lo; n <= f.Hi; n++ {
				longer = append(longer, append(slices.Clone(c), n))
			}
		}
		all = longer
	}
	return all
}

// subsets returns all lists of some of the given terms, in their order.
func subsets(terms ...string) [][]string {
	all := [][]string{nil}
	for _, t := range terms {
		for _, l := range all {
			all = append(all, append(slices.Clone(l), t))
		}
	}
	return all
}

// place is a node with its depth.
type place struct {
	node  api.Formula
	depth int
}

// modelPlaces returns the nodes of a formula in order.
func modelPlaces(f api.Formula) []place {
	var all []place
	open := []place{{f, 1}}
	for len(open) > 0 {
		p := open[len(open)-1]
		open = open[:len(open)-1]
		all = append(all, p)
		for _, kid := range slices.Backward(p.node.Kids) {
			open = append(open, place{kid, p.depth + 1})
		}
	}
	return all
}

// modelSize returns what Size should return.
func modelSize(f api.Formula) (int, int) {
	places := modelPlaces(f)
	return len(places), slices.MaxFunc(places, func(a, b place) int { return cmp.Compare(a.depth, b.depth) }).depth
}

const modelName = `[A-Za-z][A-Za-z0-9_]{0,23}`

var modelNode = regexp.MustCompile(`\A(?:[12] "" 0 0 0|3 "` + modelName + `" [1-6] -?\d+ 0|4 "` + modelName + `" 0 0 0|5 "" 0 0 1|[67] "" 0 0 (?:[2-9]|\d\d+))\z`)

// modelCheck returns what Check should return.
func modelCheck(f api.Formula, d api.Domain, terms []string) api.Errno {
	if size, depth := modelSize(f); size > 200 || depth > 20 {
		return api.ErrLimit
	}
	known := map[string]bool{}
	for _, f := range d.Facts {
		known[fmt.Sprintf("3 %q", f.Name)] = true
	}
	for _, t := range terms {
		known[fmt.Sprintf("4 %q", t)] = true
	}
	for _, p := range modelPlaces(f) {
		n := p.node
		shape := fmt.Sprintf("%d %q %d %d %d", n.Op, n.Name, n.Cmp, n.N, len(n.Kids))
		if !modelNode.MatchString(shape) {
			return api.ErrArg
		}
		if n.N != min(max(n.N, 0), 1000000) {
			return api.ErrRange
		}
		if n.Name != "" && !known[fmt.Sprintf("%d %q", n.Op, n.Name)] {
			return api.ErrName
		}
	}
	return api.OK
}

// modelSigns returns the signs of differences that a comparison accepts.
func modelSigns(how int) []int {
	return map[int][]int{
		api.CmpEqual: {0}, api.CmpUnlike: {-1, 1}, api.CmpLess: {-1}, api.CmpAtMost: {-1, 0}, api.CmpMore: {1}, api.CmpAtLeast: {0, 1},
	}[how]
}

// modelTruth returns 1 if a well-formed formula holds, otherwise 0.
func modelTruth(f api.Formula, values map[string]int, terms []string) int {
	bit := map[bool]int{true: 1}
	var kids []int
	for _, kid := range f.Kids {
		kids = append(kids, modelTruth(kid, values, terms))
	}
	switch f.Op {
	case api.OpTest:
		return bit[slices.Contains(modelSigns(f.Cmp), cmp.Compare(values[f.Name], f.N))]
	case api.OpTerm:
		return bit[slices.Index(terms, f.Name) >= 0]
	case api.OpNot:
		return 1 - kids[0]
	case api.OpAnd:
		return slices.Min(kids)
	case api.OpOr:
		return slices.Max(kids)
	}
	return bit[f.Op == api.OpTrue]
}

// modelFits reports whether a case fits a domain whose facts are valid.
func modelFits(d api.Domain, c api.Case) bool {
	if len(c) != len(d.Facts) {
		return false
	}
	for i, f := range d.Facts {
		if c[i] < f.Lo || c[i] > f.Hi {
			return false
		}
	}
	return true
}

// modelHolds returns what Holds should return for a valid domain.
func modelHolds(f api.Formula, d api.Domain, c api.Case, terms []string) bool {
	if !modelFits(d, c) || modelCheck(f, d, modelTerms(f)) != api.OK {
		return false
	}
	values := map[string]int{}
	for i, f := range d.Facts {
		values[f.Name] = c[i]
	}
	return modelTruth(f, values, terms) == 1
}

// modelTerms returns what Terms should return.
func modelTerms(f api.Formula) []string {
	var all []string
	for _, p := range modelPlaces(f) {
		if p.node.Op == api.OpTerm && !slices.Contains(all, p.node.Name) {
			all = append(all, p.node.Name)
		}
	}
	return all
}

// textOf returns a text that is different for different formulas.
func textOf(f api.Formula) string {
	text := fmt.Sprintf("(%d %q %d %d", f.Op, f.Name, f.Cmp, f.N)
	for _, kid := range f.Kids {
		text += " " + textOf(kid)
	}
	return text + ")"
}

// modelExpand returns the text of what Expand should return for a well-formed formula.
func modelExpand(f api.Formula, name string, by api.Formula) string {
	return strings.ReplaceAll(textOf(f), textOf(term(name)), textOf(by))
}

// cloned returns a formula in new memory.
func cloned(f api.Formula) api.Formula {
	kids := make([]api.Formula, 0, len(f.Kids))
	for _, kid := range f.Kids {
		kids = append(kids, cloned(kid))
	}
	f.Kids = kids
	return f
}

// pointers returns pointers to all nodes of a formula, in order.
func pointers(f *api.Formula) []*api.Formula {
	all := []*api.Formula{f}
	for i := range f.Kids {
		all = append(all, pointers(&f.Kids[i])...)
	}
	return all
}

// changed returns a formula in new memory whose node i is changed.
func changed(f api.Formula, i int, change func(*api.Formula)) api.Formula {
	f = cloned(f)
	change(pointers(&f)[i])
	return f
}

// with returns a formula in new memory whose node i is another formula.
func with(f api.Formula, i int, other api.Formula) api.Formula {
	return changed(f, i, func(node *api.Formula) { *node = cloned(other) })
}

// formulasOf returns all formulas of a size from 1 to some other one, with these leaves.
func formulasOf(size int, leaves ...api.Formula) []api.Formula {
	bySize := [][]api.Formula{nil, leaves}
	for n := 2; n <= size; n++ {
		var l []api.Formula
		for _, f := range bySize[n-1] {
			l = append(l, not(f))
		}
		for _, kids := range listsOf(bySize, n-1) {
			if len(kids) > 1 {
				l = append(l, and(kids...), or(kids...))
			}
		}
		bySize = append(bySize, l)
	}
	return slices.Concat(bySize...)
}

// listsOf returns all lists of formulas that have together a size.
func listsOf(bySize [][]api.Formula, size int) [][]api.Formula {
	if size == 0 {
		return [][]api.Formula{nil}
	}
	var all [][]api.Formula
	for n := 1; n <= size; n++ {
		for _, first := range bySize[n] {
			for _, others := range listsOf(bySize, size-n) {
				all = append(all, append([]api.Formula{first}, others...))
			}
		}
	}
	return all
}

// smallFormulas returns formulas of the domain small with the terms p and q.
func smallFormulas(size int) []api.Formula {
	return formulasOf(size, yes(), no(), test("a", api.CmpEqual, 1), test("n", api.CmpLess, 2), term("p"), term("q"))
}

// oddFormulas returns formulas that are not well-formed, with the terms p and q and others.
func oddFormulas() []api.Formula {
	full := api.Formula{Op: api.OpTerm, Name: "p", Cmp: 9, N: -4, Kids: []api.Formula{term("q"), not(term("p")), {}}}
	return []api.Formula{
		{}, {Name: "p"}, {Op: -1, Name: "p", Cmp: 2, N: 3, Kids: []api.Formula{term("p"), {}}}, {Op: 8, Kids: []api.Formula{term("q")}},
		{Op: least}, {Op: most, Name: "q", Kids: []api.Formula{full, full}}, full, not(full), or(full), and(), or(), and(term("p")),
		{Op: api.OpNot}, {Op: api.OpNot, Name: "p", Kids: []api.Formula{term("p"), term("q")}}, {Op: api.OpTrue, Kids: []api.Formula{term("q"), term("p")}},
		{Op: api.OpFalse, Name: "p", N: 1}, {Op: api.OpTest, Name: "p", Kids: []api.Formula{term("p")}}, test("", 0, 0), test("7", 7, -1), term(""), term("7"), term("p q"),
		{Op: api.OpTerm, Name: "r", Kids: []api.Formula{term("p"), {Op: api.OpTerm, Name: "p", N: 1}}}, {Op: api.OpTerm, Kids: []api.Formula{term("")}},
		and(term("p"), or(term("q"), api.Formula{}), term(strings.Repeat("a", 25)), term("p")), nots(40, term("p")), and(repeated(300, term("q"))...),
	}
}

// writer makes up formulas.
type writer struct{ *rand.Rand }

func newWriter(seed uint64) writer { return writer{rand.New(rand.NewPCG(7, seed))} }

// of returns an element.
func of[T any](w writer, l ...T) T { return l[w.IntN(len(l))] }

// formula returns a well-formed formula of the domain small, with the terms p, q and r, and a size of about n.
func (w writer) formula(n int) api.Formula {
	if n <= 1 {
		return of(w, yes(), no(), term("p"), term("q"), term("r"), test("a", 1+w.IntN(6), w.IntN(3)), test("n", 1+w.IntN(6), w.IntN(5)))
	}
	if w.IntN(4) == 0 {
		return not(w.formula(n - 1))
	}
	kids := make([]api.Formula, min(n, 2+w.IntN(4)))
	for i := range kids {
		kids[i] = w.formula((n - 1) / len(kids))
	}
	return of(w, and, or)(kids...)
}

// spoil changes a field of a node, so that it is perhaps not well-formed any more.
func (w writer) spoil(f *api.Formula) {
	switch w.IntN(6) {
	case 0:
		f.Op = of(w, least, -1, 0, 1, 2, 3, 4, 5, 6, 7, 8, most)
	case 1:
		f.Name = of(w, "", "a", "n", "p", "q", "r", "s", "b", "7", "a b", " a", "ä", strings.Repeat("a", 24), strings.Repeat("a", 25))
	case 2:
		f.Cmp = of(w, least, -1, 0, 1, 2, 3, 4, 5, 6, 7, most)
	case 3:
		f.N = of(w, least, -1, 0, 1, 2, 999999, 1000000, 1000001, most)
	case 4:
		f.Kids = f.Kids[:w.IntN(len(f.Kids)+1)]
	default:
		f.Kids = append(f.Kids, of(w, yes(), term("p"), term("s"), api.Formula{}, nots(w.IntN(20), no())))
	}
}

// anyFormula returns a formula that is well-formed, or not.
func (w writer) anyFormula(n int) api.Formula {
	f := cloned(w.formula(n))
	for range w.IntN(4) {
		w.spoil(of(w, pointers(&f)...))
	}
	return f
}
