package fact

import (
	"slices"
	"strconv"
	"strings"
	"sync"
	"testing"

	"pandect/api"
	"pandect/lexer"
)

const (
	most  = int(^uint(0) >> 1)
	least = -most - 1
)

// flags returns a domain of n flags with different names.
func flags(n int) api.Domain {
	var d api.Domain
	for i := range n {
		d.Facts = append(d.Facts, aFlag("f"+strconv.Itoa(i)))
	}
	return d
}

// example is the domain of the chapter's examples.
func example() api.Domain { return domainOf(aNumber("age", 0, 150), aFlag("member")) }

// P6.1, F1: the domains that the chapter names, valid ones and others.
func TestValid(t *testing.T) {
	name24 := "a23456789_123456789_1234"
	for _, test := range []struct {
		what string
		d    api.Domain
		want bool
	}{
		{"no facts", api.Domain{}, true},
		{"empty facts", api.Domain{Facts: []api.Fact{}}, true},
		{"the example", example(), true},
		{"59 facts", flags(59), true},
		{"60 facts", flags(60), true},
		{"61 facts", flags(61), false},
		{"62 facts", flags(62), false},
		{"a million facts", domainOf(make([]api.Fact, 1000000)...), false},
		{"a flag", domainOf(aFlag("a")), true},
		{"a flag from 0 to 0", domainOf(api.Fact{Name: "a", Kind: api.FactFlag}), false},
		{"a flag from 1 to 1", domainOf(api.Fact{Name: "a", Kind: api.FactFlag, Lo: 1, Hi: 1}), false},
		{"a flag from 1 to 0", domainOf(api.Fact{Name: "a", Kind: api.FactFlag, Lo: 1}), false},
		{"a flag from 0 to 2", domainOf(api.Fact{Name: "a", Kind: api.FactFlag, Hi: 2}), false},
		{"a flag from -1 to 1", domainOf(api.Fact{Name: "a", Kind: api.FactFlag, Lo: -1, Hi: 1}), false},
		{"the kind 0", domainOf(api.Fact{Name: "a", Hi: 1}), false},
		{"the kind 4", domainOf(api.Fact{Name: "a", Kind: 4, Hi: 1}), false},
		{"the kind -1", domainOf(api.Fact{Name: "a", Kind: -1, Hi: 1}), false},
		{"the zero fact", domainOf(api.Fact{}), false},
		{"two facts with one name", domainOf(aFlag("a"), aFlag("a")), false},
		{"two kinds with one name", domainOf(aFlag("a"), aNumber("a", 0, 1)), false},
		{"the first and the last name", domainOf(aFlag("a"), aFlag("b"), aDay("c", 1, 2), aDay("a", 1, 2)), false},
		{"the last two names", domainOf(aFlag("a"), aFlag("b"), aFlag("c"), aFlag("c")), false},
		{"60 facts, two with one name", domainOf(append(flags(59).Facts, aFlag("f0"))...), false},
		{"names that differ in a letter's case", domainOf(aFlag("a"), aFlag("A")), true},
		{"names one of which begins the other", domainOf(aFlag("a"), aFlag("a_"), aFlag("aa")), true},
		{"words of the language", domainOf(aFlag("flag"), aFlag("number"), aFlag("day"), aFlag("to")), true},
		{"other words", domainOf(aFlag("is"), aFlag("if"), aFlag("NAME"), aFlag("INT")), true},
		{"no name", domainOf(aFlag("")), false},
		{"24 bytes", domainOf(aFlag(name24)), true},
		{"25 bytes", domainOf(aFlag(name24 + "5")), false},
		{"a blank", domainOf(aFlag(" ")), false},
		{"a blank in front", domainOf(aFlag(" a")), false},
		{"a blank at the end", domainOf(aFlag("a ")), false},
		{"two names", domainOf(aFlag("a b")), false},
		{"a comment", domainOf(aFlag("a#")), false},
		{"a digit in front", domainOf(aFlag("7a")), false},
		{"an underline in front", domainOf(aFlag("_a")), false},
		{"no ASCII letter", domainOf(aFlag("ä")), false},
		{"a second name that is none", domainOf(aFlag("a"), aFlag("7")), false},
	} {
		if got := Valid(test.d); got != test.want {
			t.Errorf("%s: %v", test.what, got)
		}
	}
}

// P6.1, F1: the bounds of numbers and days.
func TestBounds(t *testing.T) {
	values := []int{least, least + 1, -mostValue, -2, -1, 0, 1, 2, 150, mostValue - 1, mostValue, mostValue + 1, most - 1, most}
	for _, kind := range []int{api.FactNumber, api.FactDay} {
		for _, lo := range values {
			for _, hi := range values {
				f := api.Fact{Name: "a", Kind: kind, Lo: lo, Hi: hi}
				want := 0 <= lo && lo <= hi && hi <= 1000000
				if Valid(domainOf(f)) != want || Valid(domainOf(aFlag("b"), f)) != want || Valid(domainOf(f, aFlag("b"))) != want {
					t.Errorf("%v: not %v", f, want)
				}
			}
		}
	}
}

// P6.1, F1: the names of facts are the names of layer 5: each byte, each pair of bytes, and names of all lengths.
func TestNamesOfFacts(t *testing.T) {
	check := func(name string) {
		t.Helper()
		tokens, err, _ := lexer.Lex(name)
		want := err == api.OK && len(tokens) == 1 && tokens[0].Kind == api.TokName && tokens[0].Text == name
		if got := Valid(domainOf(aFlag(name))); got != want {
			t.Errorf("%q: %v", name, got)
		}
	}
	for first := range 256 {
		check(string([]byte{byte(first)}))
		for second := range 256 {
			check(string([]byte{byte(first), byte(second)}))
			check(string([]byte{'a', byte(first), byte(second)}))
		}
	}
	for n := range 60 {
		for _, fill := range []string{"a", "Z", "9", "_", "é"} {
			check(strings.Repeat(fill, n))
			check("b" + strings.Repeat(fill, n))
			check("b" + strings.Repeat(fill, n) + " ")
		}
	}
	check("b" + strings.Repeat("a", 20001))
}

// P6.1, F1: domains of all kinds are valid exactly if they are as the chapter says.
func TestValidAsDefined(t *testing.T) {
	w := newWriter(1)
	valid := 0
	for range 20000 {
		d := w.anyDomain()
		want := modelValid(d)
		if want {
			valid++
		}
		if got := Valid(d); got != want {
			t.Fatalf("%v: %v", d, got)
		}
	}
	if valid < 2000 || valid > 18000 {
		t.Errorf("%d of 20000 domains were valid", valid)
	}
}

// P6.1, F1: cases that fit, with too few or too many values, and with values just outside the bounds.
func TestFits(t *testing.T) {
	d := domainOf(aNumber("age", 18, 150), aFlag("member"), aDay("born", 0, mostValue), aNumber("one", 5, 5))
	for _, test := range []struct {
		d    api.Domain
		c    api.Case
		want bool
	}{
		{api.Domain{}, nil, true},
		{api.Domain{}, api.Case{}, true},
		{api.Domain{Facts: []api.Fact{}}, nil, true},
		{api.Domain{}, api.Case{0}, false},
		{d, nil, false},
		{d, api.Case{18, 0, 0, 5}, true},
		{d, api.Case{150, 1, 1000000, 5}, true},
		{d, api.Case{18, 0, 0}, false},
		{d, api.Case{18, 0, 0, 5, 0}, false},
		{d, api.Case{18, 0, 0, 5, 5}, false},
		{d, api.Case{17, 0, 0, 5}, false},
		{d, api.Case{151, 0, 0, 5}, false},
		{d, api.Case{18, -1, 0, 5}, false},
		{d, api.Case{18, 2, 0, 5}, false},
		{d, api.Case{18, 0, -1, 5}, false},
		{d, api.Case{18, 0, 1000001, 5}, false},
		{d, api.Case{18, 0, 0, 4}, false},
		{d, api.Case{18, 0, 0, 6}, false},
		{d, api.Case{most, least, most, least}, false},
		{domainOf(aFlag("a"), aFlag("a")), api.Case{0, 0}, false},
		{domainOf(aNumber("a", 2, 1)), api.Case{1}, false},
		{domainOf(aNumber("a", -1, 1)), api.Case{0}, false},
		{domainOf(aFlag("7")), api.Case{0}, false},
		{flags(60), make(api.Case, 60), true},
		{flags(60), make(api.Case, 59), false},
		{flags(60), make(api.Case, 61), false},
		{flags(61), make(api.Case, 61), false},
		{flags(61), make(api.Case, 60), false},
	} {
		if got := Fits(test.d, test.c); got != test.want {
			t.Errorf("%v, %v: %v", test.d, test.c, got)
		}
	}
}

// P6.1, F1: each value counts, and cases of any domains fit exactly if they are as the chapter says.
func TestFitsAsDefined(t *testing.T) {
	w := newWriter(2)
	fit := 0
	for range 20000 {
		d := w.anyDomain()
		c := make(api.Case, len(d.Facts))
		if modelValid(d) {
			c = w.values(d)
		}
		if len(c) > 0 && w.IntN(2) == 0 {
			i := w.IntN(len(c))
			c[i] = of(w, c[i]-1, c[i]+1, -1, d.Facts[i].Lo-1, d.Facts[i].Hi+1)
		}
		if w.IntN(8) == 0 {
			c = of(w, c[:len(c)/2], append(c, 0))
		}
		want := modelFits(d, c)
		if want {
			fit++
		}
		if got := Fits(d, c); got != want {
			t.Fatalf("%v, %v: %v", d, c, got)
		}
	}
	if fit < 1000 || fit > 19000 {
		t.Errorf("%d of 20000 cases fitted", fit)
	}
}

// P6.1, F1: the index of a name, in domains that are not valid as well.
func TestIndex(t *testing.T) {
	wild := domainOf(aFlag("b"), aFlag("a"), aFlag("a"), api.Fact{}, api.Fact{Name: "7 x", Kind: 9}, aFlag("b"), api.Fact{})
	many := domainOf(append(make([]api.Fact, 100000), aFlag("last"))...)
	for _, test := range []struct {
		d    api.Domain
		name string
		want int
	}{
		{api.Domain{}, "a", -1}, {api.Domain{}, "", -1},
		{example(), "age", 0}, {example(), "member", 1}, {example(), "ag", -1}, {example(), "agee", -1}, {example(), "Age", -1}, {example(), "", -1}, {example(), " age", -1},
		{wild, "a", 1}, {wild, "b", 0}, {wild, "", 3}, {wild, "7 x", 4}, {wild, "c", -1},
		{flags(61), "f60", 60}, {flags(61), "f61", -1}, {many, "last", 100000}, {many, "", 0}, {many, "first", -1},
	} {
		if got := Index(test.d, test.name); got != test.want {
			t.Errorf("%d facts, %q: %d instead of %d", len(test.d.Facts), test.name, got, test.want)
		}
	}
	w := newWriter(3)
	for range 5000 {
		d := w.anyDomain()
		first := map[string]int{}
		for i, f := range d.Facts {
			if _, known := first[f.Name]; !known {
				first[f.Name] = i
			}
		}
		for _, f := range d.Facts {
			if got := Index(d, f.Name); got != first[f.Name] {
				t.Fatalf("%v, %q: %d", d, f.Name, got)
			}
		}
		if got := Index(d, "x__"); got != -1 {
			t.Fatalf("%v: %d", d, got)
		}
	}
}

// P6.1, F2: canonical texts of domains; others have none.
func TestText(t *testing.T) {
	for want, d := range map[string]api.Domain{
		"age number 0 to 150;\nmember flag;\n":       example(),
		"flag flag;\n":                               domainOf(aFlag("flag")),
		"day day 0 to 1000000;\nto number 7 to 7;\n": domainOf(aDay("day", 0, mostValue), aNumber("to", 7, 7)),
		"number number 1000000 to 1000000;\n":        domainOf(aNumber("number", mostValue, mostValue)),
	} {
		if got := Text(d); got != want {
			t.Errorf("%q instead of %q", got, want)
		}
	}
	for _, d := range []api.Domain{
		{}, flags(61), domainOf(aFlag("a"), aFlag("a")), domainOf(aFlag("7")), domainOf(aFlag("")), domainOf(aNumber("a", 2, 1)),
		domainOf(aNumber("a", -1, 1)), domainOf(aDay("a", 0, mostValue+1)), domainOf(api.Fact{Name: "a", Kind: 4, Hi: 1}), domainOf(aFlag("b"), api.Fact{Name: "a", Hi: 1}),
	} {
		if got := Text(d); got != "" {
			t.Errorf("%v: %q", d, got)
		}
	}
}

// P6.1, F2: canonical texts of cases; others have none.
func TestCaseText(t *testing.T) {
	wide := domainOf(aDay("day", 0, mostValue), aNumber("to", 7, 7), aFlag("flag"))
	for _, test := range []struct {
		d    api.Domain
		c    api.Case
		want string
	}{
		{example(), api.Case{30, 1}, "age = 30, member = 1"},
		{example(), api.Case{0, 0}, "age = 0, member = 0"},
		{wide, api.Case{1000000, 7, 1}, "day = 1000000, to = 7, flag = 1"},
		{domainOf(aFlag("a")), api.Case{1}, "a = 1"},
		{api.Domain{}, nil, ""},
		{example(), nil, ""}, {example(), api.Case{30}, ""}, {example(), api.Case{30, 1, 0}, ""}, {example(), api.Case{151, 1}, ""}, {example(), api.Case{-1, 1}, ""}, {example(), api.Case{30, 2}, ""},
		{domainOf(aFlag("a"), aFlag("a")), api.Case{0, 0}, ""}, {domainOf(aFlag("7")), api.Case{0}, ""}, {flags(61), make(api.Case, 61), ""},
	} {
		if got := CaseText(test.d, test.c); got != test.want {
			t.Errorf("%v, %v: %q", test.d, test.c, got)
		}
	}
}

// P6.1, F2: the texts of domains and cases of all kinds.
func TestTextsAsDefined(t *testing.T) {
	w := newWriter(4)
	for range 5000 {
		d := w.anyDomain()
		if got, want := Text(d), modelText(d); got != want {
			t.Fatalf("%v: %q instead of %q", d, got, want)
		}
		c := make(api.Case, len(d.Facts))
		if modelValid(d) {
			c = w.values(d)
		}
		if len(c) > 0 && w.IntN(3) == 0 {
			c[w.IntN(len(c))] += of(w, -1, 1)
		}
		if got, want := CaseText(d, c), modelCaseText(d, c); got != want {
			t.Fatalf("%v, %v: %q instead of %q", d, c, got, want)
		}
	}
}

// P6.1, F5: the least case; a domain that is not valid has none.
func TestLeast(t *testing.T) {
	for _, test := range []struct {
		d    api.Domain
		want api.Case
	}{
		{api.Domain{}, nil},
		{example(), api.Case{0, 0}},
		{domainOf(aNumber("a", 18, 20), aFlag("b"), aDay("c", mostValue, mostValue)), api.Case{18, 0, 1000000}},
		{flags(60), make(api.Case, 60)},
		{flags(61), nil}, {domainOf(aFlag("a"), aFlag("a")), nil}, {domainOf(aNumber("a", 2, 1)), nil}, {domainOf(aNumber("a", -1, 1)), nil}, {domainOf(aFlag("7")), nil}, {domainOf(api.Fact{Name: "a", Hi: 1}), nil},
	} {
		if got := Least(test.d); !slices.Equal(got, test.want) {
			t.Errorf("%v: %v", test.d, got)
		}
	}
}

// P6.1, F5: the next case; the last one, and those that do not fit, have none.
func TestNext(t *testing.T) {
	d := domainOf(aNumber("a", 3, 5), aDay("b", 7, 7), aFlag("c"))
	for _, test := range []struct {
		d    api.Domain
		c    api.Case
		want api.Case
	}{
		{example(), api.Case{30, 1}, api.Case{31, 0}},
		{example(), api.Case{30, 0}, api.Case{30, 1}},
		{example(), api.Case{150, 0}, api.Case{150, 1}},
		{example(), api.Case{150, 1}, nil},
		{example(), api.Case{151, 0}, nil}, {example(), api.Case{-1, 1}, nil}, {example(), api.Case{30, 2}, nil}, {example(), api.Case{30, -1}, nil}, {example(), api.Case{30}, nil}, {example(), api.Case{30, 0, 0}, nil}, {example(), nil, nil},
		{d, api.Case{3, 7, 0}, api.Case{3, 7, 1}},
		{d, api.Case{3, 7, 1}, api.Case{4, 7, 0}},
		{d, api.Case{5, 7, 1}, nil},
		{d, api.Case{2, 7, 1}, nil}, {d, api.Case{4, 6, 1}, nil},
		{domainOf(aNumber("a", 0, mostValue)), api.Case{999999}, api.Case{1000000}},
		{domainOf(aNumber("a", 0, mostValue)), api.Case{1000000}, nil},
		{domainOf(aNumber("a", 7, 7)), api.Case{7}, nil},
		{api.Domain{}, nil, nil}, {api.Domain{}, api.Case{}, nil}, {api.Domain{}, api.Case{0}, nil},
		{domainOf(aFlag("a"), aFlag("a")), api.Case{0, 0}, nil}, {domainOf(aNumber("a", -1, 1)), api.Case{0}, nil}, {flags(61), make(api.Case, 61), nil},
	} {
		got, ok := Next(test.d, test.c)
		if !slices.Equal(got, test.want) || ok != (test.want != nil) {
			t.Errorf("%v, %v: %v, %v", test.d, test.c, got, ok)
		}
	}
}

// checkAllCases checks that Next goes through cases, beginning with Least, and ends after the last one.
func checkAllCases(t *testing.T, d api.Domain, all []api.Case) {
	t.Helper()
	c, ok := Least(d), true
	for i, want := range all {
		if !ok || !slices.Equal(c, want) || !Fits(d, c) {
			t.Fatalf("%v: case %d is %v, %v instead of %v", d, i, c, ok, want)
		}
		c, ok = Next(d, c)
	}
	if ok || c != nil {
		t.Fatalf("%v: %v, %v after the last case", d, c, ok)
	}
}

// P6.5: all cases of small domains, from Least on by Next.
func TestAllCases(t *testing.T) {
	checkAllCases(t, api.Domain{}, []api.Case{nil})
	checkAllCases(t, example(), modelCases(example()))
	checkAllCases(t, flags(12), modelCases(flags(12)))
	w := newWriter(5)
	for range 300 {
		d := w.smallDomain()
		checkAllCases(t, d, modelCases(d))
	}
	for lo := range 4 {
		for hi := lo; hi < 4; hi++ {
			for other := range 3 {
				d := domainOf(aNumber("a", lo, hi), aDay("b", other, 2), aFlag("c"), aNumber("d", hi, hi+1))
				checkAllCases(t, d, modelCases(d))
			}
		}
	}
}

// P6.5: the most values that a fact can have.
func TestAllValues(t *testing.T) {
	d := domainOf(aDay("a", 0, mostValue))
	c, ok := Least(d), true
	n := 0
	for ; ok; c, ok = Next(d, c) {
		if len(c) != 1 || c[0] != n {
			t.Fatalf("case %d is %v", n, c)
		}
		n++
	}
	if n != 1000001 {
		t.Errorf("%d cases", n)
	}
}

// P6.5: whatever the domain is, the next case fits, is greater, and none lies between: up to an index both cases are the
// same; there the value is one more; behind it all values were the greatest ones, and become the least ones.
func TestNextOfAny(t *testing.T) {
	w := newWriter(6)
	last := 0
	for range 20000 {
		d := w.domain(of(w, 0, 1, 2, 3, 10, 59, 60))
		c := w.values(d)
		for i := len(c) - w.IntN(len(c)+1); i < len(c); i++ {
			c[i] = d.Facts[i].Hi
		}
		at := len(c) - 1
		want := slices.Clone(c)
		for at >= 0 && c[at] == d.Facts[at].Hi {
			want[at] = d.Facts[at].Lo
			at--
		}
		got, ok := Next(d, c)
		if at < 0 {
			last++
			if ok || got != nil {
				t.Fatalf("%v, %v: %v, %v", d, c, got, ok)
			}
			continue
		}
		want[at]++
		if !ok || !slices.Equal(got, want) || !Fits(d, got) || slices.Compare(c, got) >= 0 {
			t.Fatalf("%v, %v: %v, %v", d, c, got, ok)
		}
	}
	if last < 1000 {
		t.Errorf("only %d last cases", last)
	}
}

// wildDomains returns domains of which nothing is as it should be, and some that are valid.
func wildDomains() []api.Domain {
	return []api.Domain{
		{}, {Facts: []api.Fact{}}, example(), flags(60), flags(61), domainOf(make([]api.Fact, 5)...), domainOf(make([]api.Fact, 1000)...),
		domainOf(api.Fact{Name: "a", Kind: least, Lo: least, Hi: most}), domainOf(api.Fact{Name: "a", Kind: most, Lo: most, Hi: least}),
		domainOf(aNumber("a", least, most)), domainOf(aNumber("a", most, least)), domainOf(aDay("a", most, most)), domainOf(aDay("a", least, least)),
		domainOf(aFlag("\xff\x00")), domainOf(aFlag(strings.Repeat("a", 100000))), domainOf(aNumber("a", 0, mostValue), aFlag("a")),
	}
}

// DOC.md, P1: nothing panics, whatever the arguments are, and where there is no value, all of it is zero.
func TestAllArguments(t *testing.T) {
	for i, d := range wildDomains() {
		if valid := modelValid(d); (Text(d) != "") != (valid && len(d.Facts) > 0) || (Least(d) != nil) != valid && len(d.Facts) > 0 {
			t.Errorf("domain %d: %.100q, %d values", i, Text(d), len(Least(d)))
		}
		for _, c := range []api.Case{nil, {}, {0}, {1}, {most}, {least}, {0, 0}, make(api.Case, 5), make(api.Case, 60), make(api.Case, 61), make(api.Case, 1000), make(api.Case, 1<<20)} {
			next, ok := Next(d, c)
			if fits := modelFits(d, c); Fits(d, c) != fits || !fits && (ok || next != nil || CaseText(d, c) != "") || !ok && next != nil {
				t.Errorf("domain %d, %d values: %d values, %v", i, len(c), len(next), ok)
			}
		}
		for _, name := range []string{"", "a", "age", "\xff\x00", strings.Repeat("a", 100000)} {
			if at := Index(d, name); at < -1 || at >= len(d.Facts) {
				t.Errorf("domain %d, %.10q: %d", i, name, at)
			}
		}
	}
}

// DOC.md, P1: nothing panics, whatever the bytes of a text are, and with an error there is no domain and no case.
func TestAllTexts(t *testing.T) {
	w := newWriter(7)
	texts := []string{"", "a", "a = 0", "age = 1, member = 1", "a flag;", "\xff", "!", "7x", strings.Repeat(";", 5001), strings.Repeat("a", 1<<20), strings.Repeat("a flag;", 2000)}
	for range 2000 {
		text := make([]byte, w.IntN(40))
		for i := range text {
			text[i] = of(w, byte(w.Uint32()), " ;,=a1#\n"[w.IntN(8)])
		}
		texts = append(texts, string(text))
	}
	for _, text := range texts {
		if r := parse(text); r.err != api.OK && r.domain.Facts != nil || r.err == api.OK && r.at != 0 {
			t.Errorf("%.40q: %v", text, r)
		}
		for i, d := range wildDomains() {
			if r := parseCase(d, text); r.err != api.OK && r.values != nil || r.err == api.OK && r.at != 0 {
				t.Errorf("domain %d, %.40q: %v", i, text, r)
			}
		}
	}
}

// answers is what all functions say of a domain, a case and two texts.
type answers struct {
	valid, fits, more bool
	index             int
	text, caseText    string
	least, next       string
	parsed, values    string
	errs              [4]int
}

func allOf(d api.Domain, c api.Case, text, values string) answers {
	next, more := Next(d, c)
	p, v := parse(text), parseCase(d, values)
	return answers{
		valid: Valid(d), fits: Fits(d, c), more: more, index: Index(d, "member"), text: Text(d), caseText: CaseText(d, c),
		least: CaseText(d, Least(d)), next: CaseText(d, next), parsed: Text(p.domain), values: CaseText(d, v.values),
		errs: [4]int{int(p.err), p.at, int(v.err), v.at},
	}
}

// DOC.md, P3: equal arguments yield equal results, wherever they are in memory and whoever calls at the same time.
func TestEqualArguments(t *testing.T) {
	w := newWriter(8)
	var run []func() answers
	var wants []answers
	for range 200 {
		d := w.domain(of(w, 0, 1, 2, 5, 60))
		c := w.values(d)
		text, values := w.join(w.spoil(w.domainTokens(d))), w.join(w.caseTokens(d, c, w.Perm(len(c))))
		again := func() answers {
			return allOf(domainOf(slices.Clone(d.Facts)...), slices.Clone(c), string([]byte(text)), string([]byte(values)))
		}
		run, wants = append(run, again), append(wants, again())
	}
	var group sync.WaitGroup
	for range 8 {
		group.Go(func() {
			for i, again := range run {
				if again() != wants[i] {
					t.Errorf("%v: another result for equal arguments", wants[i])
					return
				}
			}
		})
	}
	group.Wait()
}

// Rules of DOC.md: arguments are not changed, and a result shares no memory with them or with another result.
func TestMemory(t *testing.T) {
	d, c := example(), make(api.Case, 2, 10)
	c[0] = 30
	kept, values := domainOf(slices.Clone(d.Facts)...), slices.Clone(c)
	for range 2 {
		next, _ := Next(d, c)
		low := Least(d)
		read, _, _ := ParseCase(d, "age = 3, member = 1")
		parsed, _, _ := Parse(Text(d))
		if !slices.Equal(next, api.Case{30, 1}) || !slices.Equal(low, api.Case{0, 0}) || !slices.Equal(read, api.Case{3, 1}) || !sameDomain(parsed, kept) {
			t.Fatalf("%v, %v, %v, %v", next, low, read, parsed)
		}
		for i := range 2 {
			next[i], low[i], read[i], parsed.Facts[i] = 77, 77, 77, api.Fact{}
		}
		_, _, _, _ = append(next, 7), append(low, 7), append(read, 7), append(parsed.Facts, api.Fact{})
		CaseText(d, c)
		Fits(d, c)
		if !sameDomain(d, kept) || !slices.Equal(c, values) || !slices.Equal(c[:3], api.Case{30, 0, 0}) {
			t.Fatalf("the arguments became %v, %v", d, c[:3])
		}
	}
}
