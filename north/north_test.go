package north

import (
	"slices"
	"strconv"
	"strings"
	"testing"

	"pandect/api"
)

// full returns the tokens of texts that have, together, all key words, and each part there or left out.
func full() [][]string {
	return [][]string{
		strings.Fields("act a1 : answer tax is 5 if income > 3 and not poor or ( rich = 1 ) notwithstanding b1 , b2 from order o1 and day 20 until event e1 or begun c1 again ( over d1 ) ."),
		strings.Fields("bylaw p : define poor if true or false notwithstanding q from always until never again day 0 ."),
		strings.Fields("regulation r : answer y is 0 notwithstanding a , b , c until ( begun b ) ."),
		strings.Fields("constitution c : define x ."),
	}
}

// P8.1: the examples of the chapter.
func TestExamples(t *testing.T) {
	tax := theRule(api.RankAct, "tax1", "tax", 5)
	tax.When = and(test("income", api.CmpMore, 3), not(term("poor")))
	poor := theTerm(api.RankBylaw, "p", "poor")
	poor.When = or(test("income", api.CmpLess, 2), and(test("income", api.CmpLess, 4), test("member", api.CmpEqual, 1)))
	poor.Begin, poor.End = order("o1"), day(50)
	for text, want := range map[string]result{
		"act tax1: answer tax is 5 if income > 3 and not poor.":                                       {p: tax},
		"bylaw p: define poor if income < 2 or income < 4 and member = 1 from order o1 until day 50.": {p: poor},
		"act a: answer q is 1000001.":                                                                 failed(api.ErrRange, 19),
		"act is: define x.":                                                                           failed(api.ErrSyntax, 4),
		"act a: define x":                                                                             failed(api.ErrEnd, 15),
	} {
		if got := parse(text); !got.equal(want) {
			t.Errorf("%q: %v", text, got)
		}
	}
}

// P8.1: texts of all ranks and both kinds, with each part there and left out.
func TestParts(t *testing.T) {
	ranks := map[string]int{"constitution": api.RankConstitution, "act": api.RankAct, "regulation": api.RankRegulation, "bylaw": api.RankBylaw}
	parts := []struct {
		text string
		add  func(*api.Provision)
	}{
		{" if age >= 18", func(p *api.Provision) { p.When = test("age", api.CmpAtLeast, 18) }},
		{" notwithstanding b, c", func(p *api.Provision) { p.Except = []string{"b", "c"} }},
		{" from order o", func(p *api.Provision) { p.Begin = order("o") }},
		{" until event e", func(p *api.Provision) { p.End = event("e") }},
		{" again begun g", func(p *api.Provision) { p.Again = begun("g") }},
	}
	for word, rank := range ranks {
		for text, p := range map[string]api.Provision{": define n": theTerm(rank, "a", "n"), ": answer n is 7": theRule(rank, "a", "n", 7)} {
			for set := range 1 << len(parts) {
				text, p := word+" a"+text, p
				for i, part := range parts {
					if set>>i&1 == 1 {
						text += part.text
						part.add(&p)
					}
				}
				if got := parse(text + "."); !got.equal(result{p: p}) {
					t.Errorf("%q: %v", text, got)
				}
			}
		}
	}
}

// P8.1: parts in another order, and parts that are there twice, are no text.
func TestOrderOfParts(t *testing.T) {
	parts := []string{"if a", "notwithstanding b", "from always", "until never", "again never"}
	for i, first := range parts {
		for j, second := range parts {
			text := "act a: define n " + first + " " + second + "."
			want := api.OK
			if j <= i {
				want = api.ErrSyntax
			}
			got := parse(text)
			if got.err != want || want != api.OK && got.at != len("act a: define n ")+len(first)+1 {
				t.Errorf("%q: %v", text, got)
			}
		}
	}
}

// P8.1: the formulas of conditions.
func TestFormulas(t *testing.T) {
	a, b, c, d := term("a"), term("b"), term("c"), term("d")
	for text, want := range map[string]api.Formula{
		"a":                              a,
		"true":                           yes(),
		"false":                          no(),
		"a = 5":                          test("a", api.CmpEqual, 5),
		"a != 5":                         test("a", api.CmpUnlike, 5),
		"a < 5":                          test("a", api.CmpLess, 5),
		"a <= 5":                         test("a", api.CmpAtMost, 5),
		"a > 5":                          test("a", api.CmpMore, 5),
		"a >= 5":                         test("a", api.CmpAtLeast, 5),
		"a=5":                            test("a", api.CmpEqual, 5),
		"a<=0000012":                     test("a", api.CmpAtMost, 12),
		"not a":                          not(a),
		"not true":                       not(yes()),
		"not a = 5":                      not(test("a", api.CmpEqual, 5)),
		"not not a":                      not(not(a)),
		"not not not false":              not(not(not(no()))),
		"not (not a)":                    not(not(a)),
		"(not a)":                        not(a),
		"(a)":                            a,
		"((a))":                          a,
		"(((a > 1)))":                    test("a", api.CmpMore, 1),
		"not ((a))":                      not(a),
		"a and b":                        and(a, b),
		"a or b":                         or(a, b),
		"a and b and c":                  and(a, b, c),
		"a or b or c":                    or(a, b, c),
		"a and a and a and a and a":      and(a, a, a, a, a),
		"a or b and c":                   or(a, and(b, c)),
		"a and b or c":                   or(and(a, b), c),
		"a and b or c and d":             or(and(a, b), and(c, d)),
		"a or b and c or d":              or(a, and(b, c), d),
		"a or b or c and d and a or b":   or(a, b, and(c, d, a), b),
		"(a or b) and c":                 and(or(a, b), c),
		"a and (b or c)":                 and(a, or(b, c)),
		"(a or b) and (c or d)":          and(or(a, b), or(c, d)),
		"(a and b) and c":                and(and(a, b), c),
		"a and (b and c)":                and(a, and(b, c)),
		"(a or b) or c":                  or(or(a, b), c),
		"a or (b or c)":                  or(a, or(b, c)),
		"((a) and (b))":                  and(a, b),
		"(a and b)":                      and(a, b),
		"(a) or ((b))":                   or(a, b),
		"((a or b))":                     or(a, b),
		"not a and b":                    and(not(a), b),
		"not (a and b)":                  not(and(a, b)),
		"not a or not b":                 or(not(a), not(b)),
		"not (a or b) and c":             and(not(or(a, b)), c),
		"a and not b or c":               or(and(a, not(b)), c),
		"a and not (b or not (c and d))": and(a, not(or(b, not(and(c, d))))),
		"true and true or false":         or(and(yes(), yes()), no()),
		"a = 1 or a = 1":                 or(test("a", api.CmpEqual, 1), test("a", api.CmpEqual, 1)),
		"a > 0 and b":                    and(test("a", api.CmpMore, 0), b),
	} {
		p := theTerm(api.RankAct, "i", "n")
		p.When = want
		if got := parse("act i: define n if " + text + "."); !got.equal(result{p: p}) {
			t.Errorf("%q: %v", text, got)
		}
	}
}

// P8.1: conditions of commencement, which are read alike after all three words.
func TestStarts(t *testing.T) {
	a, b, c, d := order("a"), event("b"), begun("c"), day(4)
	for text, want := range map[string]api.Start{
		"always":                          always(),
		"never":                           never(),
		"day 4":                           d,
		"day 0004":                        d,
		"order a":                         a,
		"event b":                         b,
		"begun c":                         c,
		"over d":                          over("d"),
		"(always)":                        always(),
		"((day 4))":                       d,
		"(((over d)))":                    over("d"),
		"order a and event b":             all(a, b),
		"order a or event b":              some(a, b),
		"order a and event b and begun c": all(a, b, c),
		"order a or event b or begun c or day 4 or day 4": some(a, b, c, d, d),
		"order a or event b and begun c":                  some(a, all(b, c)),
		"order a and event b or begun c":                  some(all(a, b), c),
		"order a and event b or begun c and day 4":        some(all(a, b), all(c, d)),
		"order a or event b and begun c or day 4":         some(a, all(b, c), d),
		"(order a or event b) and begun c":                all(some(a, b), c),
		"order a and (event b or begun c)":                all(a, some(b, c)),
		"(order a and event b) and begun c":               all(all(a, b), c),
		"order a or (event b or begun c)":                 some(a, some(b, c)),
		"(order a) or ((event b))":                        some(a, b),
		"(order a and event b)":                           all(a, b),
		"((order a or event b))":                          some(a, b),
		"always and never":                                all(always(), never()),
	} {
		p := theTerm(api.RankAct, "i", "n")
		p.Begin = want
		if got := parse("act i: define n from " + text + "."); !got.equal(result{p: p}) {
			t.Errorf("from %q: %v", text, got)
		}
		p.Begin, p.End = always(), want
		if got := parse("act i: define n until " + text + "."); !got.equal(result{p: p}) {
			t.Errorf("until %q: %v", text, got)
		}
		p.End, p.Again = never(), want
		if got := parse("act i: define n again " + text + "."); !got.equal(result{p: p}) {
			t.Errorf("again %q: %v", text, got)
		}
	}
}

// The words of the grammar are the key words that the chapter lists.
func TestKeyWords(t *testing.T) {
	words := map[string]bool{}
	for symbol := range newGrammar(chapterGrammar).numbers {
		if word, quoted := strings.CutPrefix(symbol, `"`); quoted && word[0] >= 'a' {
			words[strings.TrimSuffix(word, `"`)] = true
		}
	}
	for _, word := range keyWords() {
		if !words[word] {
			t.Errorf("%q is not in the grammar", word)
		}
	}
	if len(words) != len(keyWords()) {
		t.Errorf("%v", words)
	}
}

// P8.1: names are what layer 5 says; key words are only what the chapter lists, in small letters.
func TestNames(t *testing.T) {
	names := []string{"a", "Z", "a_", "x0", "abcdefghijklmnopqrstuvwx", "A23456789_123456789_1234", "ifs", "i", "orr", "nota", "is_", "day1", "flag", "where", "then", "else", "to", "xor", "number"}
	for _, word := range keyWords() {
		names = append(names, strings.ToUpper(word), strings.ToUpper(word[:1])+word[1:], word+"_", word+"0", "x"+word, word[1:]+"z")
	}
	for _, name := range names {
		p := theRule(api.RankBylaw, name, name, 1)
		p.When = and(term(name), test(name, api.CmpEqual, 1))
		p.Except = []string{name}
		p.Begin, p.End, p.Again = some(order(name), event(name)), begun(name), over(name)
		text := strings.ReplaceAll("bylaw ?: answer ? is 1 if ? and ? = 1 notwithstanding ? from order ? or event ? until begun ? again over ?.", "?", name)
		if got := parse(text); !got.equal(result{p: p}) {
			t.Errorf("%q: %v", text, got)
		}
	}
}

// replaced returns the text of tokens with another one in the place of one of them, and the offset of this place.
func replaced(tokens []string, i int, by string) (string, int) {
	before := strings.Join(tokens[:i], " ") + " "
	return before + by + " " + strings.Join(tokens[i+1:], " "), len(before)
}

// inFormula reports whether a token stands in the part after `if`.
func inFormula(tokens []string, i int) bool {
	for _, token := range slices.Backward(tokens[:i]) {
		if slices.Contains([]string{"if", ":", "notwithstanding", "from", "until", "again"}, token) {
			return token == "if"
		}
	}
	return false
}

// P8.1: each key word in the place of each NAME: only in conditions about cases, it may begin something else.
func TestKeyWordsForNames(t *testing.T) {
	m := newModel()
	for _, tokens := range full() {
		for i, token := range tokens {
			if !modelName.MatchString(token) || slices.Contains(keyWords(), token) {
				continue
			}
			for _, word := range keyWords() {
				text, at := replaced(tokens, i, word)
				got := parse(text)
				if !got.equal(m.parse(text)) {
					t.Errorf("%q: %v", text, got)
				}
				mayBegin := inFormula(tokens, i) && slices.Contains([]string{"true", "false", "not"}, word)
				if got.equal(failed(api.ErrSyntax, at)) == mayBegin {
					t.Errorf("%q for %q, %q: %v", word, token, text, got)
				}
			}
		}
	}
}

// P8.1: NAMEs in the place of each key word: only in conditions about cases, they may begin something else.
func TestNamesForKeyWords(t *testing.T) {
	m := newModel()
	for _, tokens := range full() {
		for i, token := range tokens {
			if !slices.Contains(keyWords(), token) {
				continue
			}
			for _, name := range []string{"x", strings.ToUpper(token), token + "_", "x" + token} {
				text, at := replaced(tokens, i, name)
				got := parse(text)
				if !got.equal(m.parse(text)) {
					t.Errorf("%q: %v", text, got)
				}
				mayBegin := inFormula(tokens, i) && slices.Contains([]string{"true", "false", "not"}, token)
				if got.equal(failed(api.ErrSyntax, at)) == mayBegin {
					t.Errorf("%q for %q, %q: %v", name, token, text, got)
				}
			}
		}
	}
}

// P8.1: texts of all kinds, most of them with mistakes, have the provision, or the error, of the model.
func TestAsDefined(t *testing.T) {
	w, m := newWriter(1), newModel()
	count := map[api.Errno]int{}
	for range 20000 {
		p := w.provision()
		tokens := w.tokens(p)
		spoiled := w.IntN(4) > 0
		if spoiled {
			tokens = w.spoil(tokens)
		}
		text := w.join(tokens)
		got, want := parse(text), m.parse(text)
		if !got.equal(want) {
			t.Fatalf("%s: %v instead of %v", brief(text), got, want)
		}
		if !spoiled && !got.equal(result{p: p}) {
			t.Fatalf("%s: %v instead of %v", brief(text), got, p)
		}
		count[want.err]++
	}
	for err, least := range map[api.Errno]int{api.OK: 4000, api.ErrSyntax: 4000, api.ErrEnd: 1000, api.ErrRange: 500, api.ErrTwice: 100} {
		if count[err] < least {
			t.Errorf("only %d texts with the error %d", count[err], err)
		}
	}
}

// P8.1: all short lists of tokens in each part that begin a text, and what may follow them.
func TestShortTexts(t *testing.T) {
	m := newModel()
	count := map[api.Errno]int{}
	var try func(text string, most int, tokens []string)
	try = func(text string, most int, tokens []string) {
		got, want := parse(text), m.parse(text)
		if !got.equal(want) {
			t.Fatalf("%q: %v instead of %v", text, got, want)
		}
		count[want.err]++
		if most == 0 || want.err == api.ErrSyntax {
			return
		}
		for _, token := range tokens {
			try(text+" "+token, most-1, tokens)
		}
	}
	try("", 9, []string{"act", "bylaw", "a", ":", "define", "answer", "is", "0", "1000001", "."})
	try("act a: define x if", 9, []string{"a", "not", "(", ")", "and", "or", "=", "7", "."})
	try("act a: define x if", 5, append(keyWords(), "a", "(", ")", "<", ">=", "1000000", "1000001", ",", "."))
	try("act a: define x from", 9, []string{"day", "9", "event", "a", "(", ")", "and", "or", "."})
	try("act a: define x until", 5, append(keyWords(), "a", "(", ")", "<", "1000000", "1000001", ",", "."))
	try("act a: define x", 8, []string{"if", "notwithstanding", "from", "until", "again", "a", "b", ",", "never", "true", "."})
	for err, least := range map[api.Errno]int{api.OK: 1000, api.ErrSyntax: 10000, api.ErrEnd: 1000, api.ErrRange: 100, api.ErrTwice: 50} {
		if count[err] < least {
			t.Errorf("only %d texts with the error %d", count[err], err)
		}
	}
}

// P8.1: every token left out, doubled, exchanged with the next one, or replaced by, or after, each other one.
func TestEveryToken(t *testing.T) {
	m := newModel()
	check := func(lists ...[]string) {
		t.Helper()
		var tokens []string
		for _, l := range lists {
			tokens = append(tokens, l...)
		}
		text := strings.Join(tokens, " ")
		if got, want := parse(text), m.parse(text); !got.equal(want) {
			t.Errorf("%q: %v instead of %v", text, got, want)
		}
	}
	for _, l := range full() {
		for i, token := range l {
			check(l[:i], l[i+1:])
			check(l[:i], []string{token, token}, l[i+1:])
			if i+1 < len(l) {
				check(l[:i], []string{l[i+1], token}, l[i+2:])
			}
			for _, other := range otherTokens() {
				check(l[:i], []string{other}, l[i+1:])
				check(l[:i], []string{other}, l[i:])
			}
		}
	}
}

// P8.1: what the tokens of a text are not, at each of its places.
func TestSyntaxErrors(t *testing.T) {
	for text, at := range map[string]int{
		"x a: define x.":                        0,
		"Act a: define x.":                      0,
		"5 a: define x.":                        0,
		": a: define x.":                        0,
		".":                                     0,
		"define x.":                             0,
		"act: define x.":                        3,
		"act 5: define x.":                      4,
		"act act: define x.":                    4,
		"act a define x.":                       6,
		"act a. define x.":                      5,
		"act a:: define x.":                     6,
		"act a: x.":                             7,
		"act a: if x.":                          7,
		"act a: define: x.":                     13,
		"act a: define 7.":                      14,
		"act a: define is.":                     14,
		"act a: define x is 5.":                 16,
		"act a: define x = 5.":                  16,
		"act a: answer x.":                      15,
		"act a: answer x 5.":                    16,
		"act a: answer x = 5.":                  16,
		"act a: answer x is x.":                 19,
		"act a: answer x is is 5.":              19,
		"act a: answer x is .":                  19,
		"act a: answer x is 5 5.":               21,
		"act a: define x, y.":                   15,
		"act a: define x if.":                   18,
		"act a: define x if if a.":              19,
		"act a: define x if 5.":                 19,
		"act a: define x if and a.":             19,
		"act a: define x if or.":                19,
		"act a: define x if ().":                20,
		"act a: define x if ) a.":               19,
		"act a: define x if (a.":                21,
		"act a: define x if (a from always.":    22,
		"act a: define x if (a b).":             22,
		"act a: define x if (a, b).":            21,
		"act a: define x if a).":                20,
		"act a: define x if a a.":               21,
		"act a: define x if a not b.":           21,
		"act a: define x if a and.":             24,
		"act a: define x if a and or b.":        25,
		"act a: define x if a or and b.":        24,
		"act a: define x if a or or b.":         24,
		"act a: define x if not.":               22,
		"act a: define x if not and a.":         23,
		"act a: define x if a = b.":             23,
		"act a: define x if a =.":               22,
		"act a: define x if a == 5.":            22,
		"act a: define x if a 5.":               21,
		"act a: define x if 5 = a.":             19,
		"act a: define x if true = 1.":          24,
		"act a: define x if false 1.":           25,
		"act a: define x if (a) = 1.":           23,
		"act a: define x if not a = 1 = 1.":     29,
		"act a: define x if a = 1 5.":           25,
		"act a: define x if a and always.":      25,
		"act a: define x if day 5.":             19,
		"act a: define x if order b.":           19,
		"act a: define x if define.":            19,
		"act a: define x notwithstanding.":      31,
		"act a: define x notwithstanding ,":     32,
		"act a: define x notwithstanding b c.":  34,
		"act a: define x notwithstanding b,,c.": 34,
		"act a: define x notwithstanding b,.":   34,
		"act a: define x notwithstanding 5.":    32,
		"act a: define x notwithstanding (b).":  32,
		"act a: define x notwithstanding or.":   32,
		"act a: define x from.":                 20,
		"act a: define x from b.":               21,
		"act a: define x from 5.":               21,
		"act a: define x from not always.":      21,
		"act a: define x from true.":            21,
		"act a: define x from day b.":           25,
		"act a: define x from day.":             24,
		"act a: define x from day = 5.":         25,
		"act a: define x from order 5.":         27,
		"act a: define x from order.":           26,
		"act a: define x from event over.":      27,
		"act a: define x from begun (b).":       27,
		"act a: define x from over and.":        26,
		"act a: define x from always never.":    28,
		"act a: define x from always and.":      31,
		"act a: define x from and always.":      21,
		"act a: define x from always or or.":    31,
		"act a: define x from ().":              22,
		"act a: define x from (always.":         28,
		"act a: define x from always).":         27,
		"act a: define x from order b = 5.":     29,
		"act a: define x until.":                21,
		"act a: define x until b.":              22,
		"act a: define x again.":                21,
		"act a: define x again again.":          22,
		"act a: define x;":                      15,
		"act a: define x :":                     16,
		"act a: define x..":                     16,
		"act a: define x. act b: define y.":     17,
		"act a: define x. .":                    17,
		"act a: define x. 5":                    17,
		"act a: define x. if a.":                17,
		"act a: define x. never":                17,
	} {
		if got := parse(text); !got.equal(failed(api.ErrSyntax, at)) {
			t.Errorf("%q: %v", text, got)
		}
	}
}

// P8.1, P8.7: texts that end behind each token, with gaps behind it or without, the empty text, and texts of gaps alone.
func TestEnds(t *testing.T) {
	gaps := append(someGaps(), "", "#", "# .", strings.Repeat("\n", 1000))
	for _, gap := range gaps {
		if got := parse(gap); !got.equal(failed(api.ErrEnd, len(gap))) {
			t.Errorf("%s: %v", brief(gap), got)
		}
	}
	for _, l := range full() {
		for i := range l {
			for _, gap := range gaps {
				text := strings.Join(l[:i], " ") + gap
				if got := parse(text); !got.equal(failed(api.ErrEnd, len(text))) {
					t.Errorf("%s: %v", brief(text), got)
				}
			}
		}
	}
	longest := "act a: define x" + strings.Repeat(" ", api.MaxSource-15)
	if got := parse(longest); !got.equal(failed(api.ErrEnd, api.MaxSource)) {
		t.Error(got)
	}
}

// P8.1, P8.7: further tokens behind the last one.
func TestFurtherTokens(t *testing.T) {
	for _, l := range full() {
		text := strings.Join(l, " ")
		for _, gap := range append(someGaps(), "") {
			for _, token := range otherTokens() {
				for _, rest := range []string{"", " ", " .", " " + text, "\n5 5 5", strings.Repeat(" .", 1000)} {
					if got := parse(text + gap + token + rest); !got.equal(failed(api.ErrSyntax, len(text+gap))) {
						t.Errorf("%s and %s: %v", brief(gap+token), brief(rest), got)
					}
				}
			}
		}
	}
}

// P8.1: numbers at the limits in each place, and those that layer 5 refuses.
func TestNumbers(t *testing.T) {
	places := map[string]func(*api.Provision, int){"act a: answer n is ?.": func(p *api.Provision, n int) { p.Value = n }}
	for i, sign := range []string{"=", "!=", "<", "<=", ">", ">="} {
		places["act a: answer n is 1 if f "+sign+" ?."] = func(p *api.Provision, n int) { p.When = test("f", 1+i, n) }
		places["act a: answer n is 1 if b and (c or not f "+sign+" ? )from always."] = func(p *api.Provision, n int) {
			p.When = and(term("b"), or(term("c"), not(test("f", 1+i, n))))
		}
	}
	places["act a: answer n is 1 from day ?."] = func(p *api.Provision, n int) { p.Begin = day(n) }
	places["act a: answer n is 1 until order o and (day ? or never)."] = func(p *api.Provision, n int) { p.End = all(order("o"), some(day(n), never())) }
	places["act a: answer n is 1 again (((day ?)))."] = func(p *api.Provision, n int) { p.Again = day(n) }
	for text, set := range places {
		at := strings.Index(text, "?")
		for digits, n := range map[string]int{"0": 0, "0000000": 0, "1": 1, "0000001": 1, "7": 7, "0012345": 12345, "999999": 999999, "0999999": 999999, "1000000": 1000000} {
			p := theRule(api.RankAct, "a", "n", 1)
			set(&p, n)
			if got := parse(strings.Replace(text, "?", digits, 1)); !got.equal(result{p: p}) {
				t.Errorf("%q, %s: %v", text, digits, got)
			}
		}
		for digits, err := range map[string]api.Errno{"1000001": api.ErrRange, "1000002": api.ErrRange, "2000000": api.ErrRange, "9999999": api.ErrRange, "10000000": api.ErrNumber, "00000000": api.ErrNumber, "5x": api.ErrNumber, "1000001_": api.ErrNumber, "-1": api.ErrChar, "!": api.ErrChar} {
			if got := parse(strings.Replace(text, "?", digits, 1)); !got.equal(failed(err, at)) {
				t.Errorf("%q, %s: %v", text, digits, got)
			}
			// Whatever follows a number that is out of range is not read any more.
			if got := parse(strings.Replace(text, "?", digits+" ) ( if if 9999999", 1)); !got.equal(failed(err, at)) {
				t.Errorf("%q, %s: %v", text, digits, got)
			}
		}
	}
}

// P8.1: an error of layer 5 counts wherever it stands, also behind an error of the grammar.
func TestErrorsOfTokens(t *testing.T) {
	for text, want := range map[string]result{
		"!":                                             failed(api.ErrChar, 0),
		"act act !":                                     failed(api.ErrChar, 8),
		"act a: define x. !":                            failed(api.ErrChar, 17),
		"act a: define x.\r\n":                          failed(api.ErrChar, 16),
		"act a: define x. . 7x":                         failed(api.ErrNumber, 19),
		"5 5 5 12345678":                                failed(api.ErrNumber, 6),
		"act a: define x if ) _b.":                      failed(api.ErrChar, 21),
		"act a: define " + long25:                       failed(api.ErrLimit, 14),
		"act " + long25 + " !":                          failed(api.ErrLimit, 4),
		"act is: define " + long25:                      failed(api.ErrLimit, 15),
		"act a: answer q is 1e3 !":                      failed(api.ErrNumber, 19),
		"act \xff: define x.":                           failed(api.ErrChar, 4),
		"act ä: define x.":                              failed(api.ErrChar, 4),
		"act a: define x if a ! b.":                     failed(api.ErrChar, 21),
		"act a: answer n is 1000001 if a ! b. 7x":       failed(api.ErrChar, 32),
		strings.Repeat(" ", 20001):                      failed(api.ErrLimit, -1),
		strings.Repeat("!", 20001):                      failed(api.ErrLimit, -1),
		"act a: define x." + strings.Repeat(" ", 19985): failed(api.ErrLimit, -1),
		strings.Repeat(".", 5001):                       failed(api.ErrLimit, 5000),
		strings.Repeat(".", 5000):                       failed(api.ErrSyntax, 0),
		strings.Repeat(".", 5001) + "!":                 failed(api.ErrLimit, 5000),
		"act a: define x." + strings.Repeat(".", 4995):  failed(api.ErrLimit, 16+4994),
		"act a: define x." + strings.Repeat(".", 4994):  failed(api.ErrSyntax, 16),
	} {
		if got := parse(text); !got.equal(want) {
			t.Errorf("%s: %v instead of %v", brief(text), got, want)
		}
	}
	if got := parse("act a: define x." + strings.Repeat(" ", 19984)); !got.equal(result{p: theTerm(api.RankAct, "a", "x")}) {
		t.Error(got)
	}
	for _, l := range full() {
		for i := range len(l) + 1 {
			text := strings.Join(l[:i], " ") + " ? " + strings.Join(l[i:], " ")
			at := strings.Index(text, "?")
			for _, before := range []string{"", "act ( ", "a : ", "1000001 "} {
				for wrong, err := range map[string]api.Errno{"!": api.ErrChar, "_a": api.ErrChar, "7x": api.ErrNumber, "12345678": api.ErrNumber, long25: api.ErrLimit, "\x00": api.ErrChar, "'": api.ErrChar} {
					if got := parse(before + strings.Replace(text, "?", wrong, 1)); !got.equal(failed(err, len(before)+at)) {
						t.Errorf("%s, %q: %v", before+text, wrong, got)
					}
				}
			}
		}
	}
}

// P8.1: names after `notwithstanding` that are there already, 20 and 21 of them, and a 21st one that is there already.
func TestExcept(t *testing.T) {
	var names []string
	for i := range 30 {
		names = append(names, "n"+strconv.Itoa(10+i))
	}
	begin := "act n10: define n11 notwithstanding "
	for count := 1; count <= 30; count++ {
		text := begin + strings.Join(names[:count], ", ")
		p := theTerm(api.RankAct, "n10", "n11")
		p.Except = names[:count]
		want := result{p: p}
		if count > 20 {
			want = failed(api.ErrLimit, len(begin)+20*5)
		}
		for _, rest := range []string{".", "\n.", ".# x"} {
			if got := parse(text + rest); !got.equal(want) {
				t.Errorf("%d names: %v", count, got)
			}
		}
		// What follows the 20th name matters before the end of the text is read.
		if count <= 20 {
			want = failed(api.ErrEnd, len(text))
		}
		if got := parse(text); !got.equal(want) {
			t.Errorf("%d names: %v", count, got)
		}
		for twice := range count {
			want := failed(api.ErrTwice, len(text)+2)
			if count > 20 {
				want = failed(api.ErrLimit, len(begin)+20*5)
			}
			for _, rest := range []string{".", "", ", n10, n11.", " )", ", n50."} {
				if got := parse(text + ", " + names[twice] + rest); !got.equal(want) {
					t.Errorf("%d names, then the one of %d: %v", count, twice, got)
				}
			}
		}
	}
	p := theTerm(api.RankAct, "a", "x")
	p.When, p.Except, p.Begin = term("b"), []string{"a", "x", "b", "o", "A", "B"}, order("o")
	if got := parse("act a: define x if b notwithstanding a,x,b,o,A,B from order o."); !got.equal(result{p: p}) {
		t.Errorf("names that stand elsewhere: %v", got)
	}
	for text, want := range map[string]result{
		"act a: define x notwithstanding b, is.":             failed(api.ErrSyntax, 35),
		"act a: define x notwithstanding b, b":               failed(api.ErrTwice, 35),
		"act a: define x notwithstanding b, c, c d 1000001.": failed(api.ErrTwice, 38),
		"act a: define x notwithstanding b b.":               failed(api.ErrSyntax, 34),
	} {
		if got := parse(text); !got.equal(want) {
			t.Errorf("%q: %v", text, got)
		}
	}
	if got := parse(begin + strings.Join(names[:20], ",") + ", 5."); !got.equal(failed(api.ErrSyntax, len(begin)+20*4+1)) {
		t.Errorf("a number as the 21st name: %v", got)
	}
}
