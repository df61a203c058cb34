package north

import (
	"slices"
	"strings"
	"testing"

	"pandect/api"
	"pandect/lexer"
)

// place returns the number of tokens before an error, one more for the end of the text, and the offset 0 without an error.
func place(text string, r result) int {
	if r.err == api.OK {
		return r.at
	}
	tokens, _, _ := lexer.Lex(text[:r.at])
	if r.at == len(text) {
		return len(tokens) + 1
	}
	return len(tokens)
}

// P8.2: gaps make no difference between tokens, at the beginning and at the end; errors stand at the same tokens.
func TestGaps(t *testing.T) {
	w := newWriter(2)
	for range 20000 {
		tokens := w.tokens(w.provision())
		if w.IntN(2) == 0 {
			tokens = w.spoil(tokens)
		}
		one, other := strings.Join(tokens, " "), w.join(tokens)
		a, b := parse(one), parse(other)
		if !sameProvision(a.p, b.p) || a.err != b.err || place(one, a) != place(other, b) {
			t.Fatalf("%q: %v; %q: %v", one, a, other, b)
		}
	}
}

// P8.2: each gap at each place of a text, and at all of them.
func TestEveryGap(t *testing.T) {
	for _, tokens := range full() {
		want := parse(strings.Join(tokens, " "))
		if want.err != api.OK {
			t.Fatal(want)
		}
		for _, gap := range append(someGaps(), strings.Repeat(" ", 10000), strings.Repeat("# .\n", 2500)) {
			for i := range len(tokens) + 1 {
				text := strings.Join(tokens[:i], " ") + " " + gap + strings.Join(tokens[i:], " ")
				if got := parse(text); !got.equal(want) {
					t.Errorf("%s: %v", brief(text), got)
				}
			}
			if text := gap + strings.Join(tokens, gap) + gap; len(text) <= api.MaxSource {
				if got := parse(text); !got.equal(want) {
					t.Errorf("%s: %v", brief(text), got)
				}
			}
		}
		packed := strings.Join(tokens, " ")
		for _, symbol := range []string{":", ",", ".", "(", ")", "=", ">"} {
			packed = strings.ReplaceAll(strings.ReplaceAll(packed, " "+symbol, symbol), symbol+" ", symbol)
		}
		if got := parse(packed); !got.equal(want) || len(packed) > len(strings.Join(tokens, " "))-3 {
			t.Errorf("%q: %v", packed, got)
		}
	}
}

// P8.3: what follows the token of an ErrSyntax makes no difference; the text before it has ErrEnd, or is a text.
func TestFirstError(t *testing.T) {
	w := newWriter(3)
	found, whole := 0, 0
	check := func(text string) {
		t.Helper()
		got := parse(text)
		if got.err != api.ErrSyntax {
			return
		}
		found++
		before := parse(text[:got.at])
		if before.err == api.OK {
			whole++
		} else if !before.equal(failed(api.ErrEnd, got.at)) {
			t.Fatalf("%s: %v, but %v before", brief(text), got, before)
		}
		tokens, _, _ := lexer.Lex(text[got.at:])
		end := got.at + len(tokens[0].Text)
		for range 5 {
			var others []string
			for range w.IntN(10) {
				others = append(others, of(w, otherTokens()...))
			}
			other := text[:end] + " " + w.join(others)
			if again := parse(other); !again.equal(got) {
				t.Fatalf("%s: %v; %s: %v", brief(text), got, brief(other), again)
			}
		}
	}
	for range 15000 {
		check(w.join(w.spoil(w.tokens(w.provision()))))
	}
	// The text before the token may end with a condition that is too great, but not complete.
	for _, great := range []string{"if " + formulas().wide("or", 300).text, "from " + starts().wide("or", 300).text} {
		for _, rest := range []string{" or", " or )", " or or", " or 1000001", " or .", " .", "and (", " and ( ."} {
			check("act a: define x " + great + rest)
		}
	}
	if found < 5000 || whole < 200 {
		t.Error(found, whole)
	}
}

// when returns the formula of a condition.
func when(t *testing.T, condition string) api.Formula {
	t.Helper()
	p, err, at := Parse("act a: define x if " + condition + ".")
	if err != api.OK {
		t.Fatalf("%s: %d at %d", brief(condition), err, at)
	}
	return p.When
}

// from returns the condition of commencement after each of the words, for which it is the same.
func from(t *testing.T, condition string) api.Start {
	t.Helper()
	p, err, at := Parse(strings.ReplaceAll("act a: define x from ? until ? again ?.", "?", condition))
	if err != api.OK || !equalConditions(p.Begin, p.End) || !equalConditions(p.Begin, p.Again) {
		t.Fatalf("%s: %d at %d: %v", brief(condition), err, at, p)
	}
	return p.Begin
}

// P8.4: conditions in parentheses that are joined make the formula with both as kids, `not` makes the opposite, and
// parentheses around a condition make no difference.
func TestJoining(t *testing.T) {
	w := newWriter(4)
	check := func(text string, got, want api.Formula) {
		t.Helper()
		if !equalConditions(got, want) {
			t.Fatalf("%s: %v instead of %v", brief(text), got, want)
		}
	}
	for range 4000 {
		f, g := w.formula(1+w.IntN(4)), w.formula(1+w.IntN(3))
		a, b := strings.Join(w.formulaTokens(f, 0), " "), strings.Join(w.formulaTokens(g, 0), " ")
		check(a, when(t, a), f)
		check(a, when(t, "("+a+")"), f)
		check(a, when(t, "(( ("+a+") ))"), f)
		check(a, when(t, "("+a+") and ("+b+")"), and(f, g))
		check(a, when(t, "("+a+") or ("+b+")"), or(f, g))
		check(a, when(t, "not ("+a+")"), not(f))
		check(a, when(t, "not not ("+a+")"), not(not(f)))
		check(a, when(t, "("+a+")and(("+b+"))or not("+a+")"), or(and(f, g), not(f)))
		check(a, when(t, "("+a+") or ("+b+") and ("+a+")"), or(f, and(g, f)))
	}
	sameStart := func(text string, got, want api.Start) {
		t.Helper()
		if !equalConditions(got, want) {
			t.Fatalf("%s: %v instead of %v", brief(text), got, want)
		}
	}
	for range 4000 {
		r, s := w.start(1+w.IntN(4)), w.start(1+w.IntN(3))
		a, b := strings.Join(w.startTokens(r, 0), " "), strings.Join(w.startTokens(s, 0), " ")
		sameStart(a, from(t, a), r)
		sameStart(a, from(t, "("+a+")"), r)
		sameStart(a, from(t, "(( ("+a+") ))"), r)
		sameStart(a, from(t, "("+a+") and ("+b+")"), all(r, s))
		sameStart(a, from(t, "("+a+") or ("+b+")"), some(r, s))
		sameStart(a, from(t, "("+a+")and(("+b+"))or("+a+")"), some(all(r, s), r))
	}
}

// P8.4: many parts are the kids of one node, in their order.
func TestManyParts(t *testing.T) {
	for n := 2; n < 200; n++ {
		for _, word := range []string{"and", "or"} {
			if c := formulas().wide(word, n+1); !equalConditions(when(t, c.text), c.means) {
				t.Errorf("%d parts", n)
			}
			if c := starts().wide(word, n+1); !equalConditions(from(t, c.text), c.means) {
				t.Errorf("%d parts", n)
			}
		}
	}
}

// P8.5: a part that is left out is the same as the part with its default.
func TestAbsentParts(t *testing.T) {
	w := newWriter(5)
	defaults := []string{"if true", "from always", "until never", "again never"}
	parts := []string{"if a or not b = 2", "from order o", "until day 5 and event e", "again over p"}
	for _, begin := range []string{"constitution c: define x", "act a: answer q is 7"} {
		for _, names := range []string{"", " notwithstanding b, c"} {
			for there := range 16 {
				var with, without []string
				for i, part := range parts {
					if there>>i&1 == 1 {
						with, without = append(with, part), append(without, part)
					} else {
						with = append(with, defaults[i])
						without = append(without, "")
					}
				}
				long := begin + " " + with[0] + names + " " + strings.Join(with[1:], " ") + "."
				short := begin + " " + without[0] + names + " " + strings.Join(without[1:], " ") + "."
				a, b := parse(long), parse(short)
				if a.err != api.OK || !a.equal(b) {
					t.Errorf("%q: %v; %q: %v", long, a, short, b)
				}
				for i := range defaults {
					// Parts that are left out are left out alone, too.
					one := slices.Clone(with)
					one[i] = without[i]
					text := begin + " " + one[0] + names + " " + strings.Join(one[1:], " ") + "."
					if got := parse(text); !got.equal(a) {
						t.Errorf("%q: %v", text, got)
					}
				}
			}
		}
	}
	for range 2000 {
		p := w.provision()
		one, other := w.join(w.tokens(p)), w.join(w.tokens(p))
		if a, b := parse(one), parse(other); !a.equal(b) || !a.equal(result{p: p}) {
			t.Fatalf("%q: %v; %q: %v", one, a, other, b)
		}
	}
}

// P8.6: all names are names and no key words; all numbers, sizes and depths are within the limits; errors come alone.
func TestResults(t *testing.T) {
	w := newWriter(6)
	isNoKey := func(name string) bool { return modelName.MatchString(name) && !slices.Contains(keyWords(), name) }
	isNumber := func(n int) bool { return 0 <= n && n <= mostValue }
	var formulaFits func(f api.Formula) bool
	formulaFits = func(f api.Formula) bool {
		named := f.Op == api.OpTest || f.Op == api.OpTerm
		kids := map[int]bool{api.OpTrue: len(f.Kids) == 0, api.OpFalse: len(f.Kids) == 0, api.OpTest: len(f.Kids) == 0, api.OpTerm: len(f.Kids) == 0, api.OpNot: len(f.Kids) == 1, api.OpAnd: len(f.Kids) > 1, api.OpOr: len(f.Kids) > 1}
		return kids[f.Op] && isNumber(f.N) && (named && isNoKey(f.Name) || !named && f.Name == "") &&
			(f.Op == api.OpTest && f.Cmp >= 1 && f.Cmp <= 6 || f.Op != api.OpTest && f.Cmp == 0 && f.N == 0) &&
			!slices.ContainsFunc(f.Kids, func(kid api.Formula) bool { return !formulaFits(kid) })
	}
	var startFits func(s api.Start) bool
	startFits = func(s api.Start) bool {
		named := s.Op >= api.StartOrder && s.Op <= api.StartOver
		joins := s.Op == api.StartAll || s.Op == api.StartAny
		return s.Op >= api.StartAlways && s.Op <= api.StartAny && isNumber(s.Day) && (s.Op == api.StartDay || s.Day == 0) &&
			(named && isNoKey(s.Name) || !named && s.Name == "") && (joins && len(s.Kids) > 1 || !joins && len(s.Kids) == 0) &&
			!slices.ContainsFunc(s.Kids, func(kid api.Start) bool { return !startFits(kid) })
	}
	read := 0
	greatFormulas, greatStarts := formulas().conditions(), starts().conditions()
	for range 10000 {
		p := w.provision()
		if w.IntN(40) == 0 {
			p.When, p.End = of(w, greatFormulas...).means, of(w, greatStarts...).means
		}
		text := w.join(w.tokens(p))
		if w.IntN(2) == 0 {
			text = w.join(w.spoil(w.tokens(p)))
		}
		r := parse(text)
		if r.err != api.OK {
			if !r.equal(failed(r.err, r.at)) || r.at > len(text) || r.at < -1 {
				t.Fatalf("%s: %v", brief(text), r)
			}
			continue
		}
		read++
		got := r.p
		fits := r.at == 0 && isNoKey(got.Id) && isNoKey(got.Name) && isNumber(got.Value) && formulaFits(got.When) && got.Rank >= 1 && got.Rank <= 4 &&
			(got.Kind == api.ProvRule || got.Kind == api.ProvTerm && got.Value == 0) && len(got.Except) <= mostNames
		for i, name := range got.Except {
			fits = fits && isNoKey(name) && !slices.Contains(got.Except[:i], name)
		}
		size, depth := sizeOfFormula(got.When)
		fits = fits && size <= mostSize && depth <= mostDepth
		for _, s := range []api.Start{got.Begin, got.End, got.Again} {
			size, depth := sizeOfStart(s)
			fits = fits && startFits(s) && size <= mostSize && depth <= mostDepth
		}
		if !fits {
			t.Fatalf("%s: %v", brief(text), r)
		}
	}
	if read < 4000 {
		t.Errorf("only %d provisions were read", read)
	}
}

// P8.7: a text without its last token has ErrEnd at its length, and with a further one ErrSyntax there.
func TestLastToken(t *testing.T) {
	w := newWriter(7)
	for range 4000 {
		tokens := w.tokens(w.provision())
		text := strings.TrimRight(w.join(tokens), " \t\n")
		if parse(text).err != api.OK {
			t.Fatalf("%s: %v", brief(text), parse(text))
		}
		short := w.join(tokens[:len(tokens)-1])
		if got := parse(short); !got.equal(failed(api.ErrEnd, len(short))) {
			t.Fatalf("%s: %v", brief(short), got)
		}
		long := text + "\n" + of(w, otherTokens()...)
		if got := parse(long + " " + w.join(tokens)); !got.equal(failed(api.ErrSyntax, len(text)+1)) {
			t.Fatalf("%s: %v", brief(long), got)
		}
	}
}

// P1: any bytes, and deep texts, have a provision or an error.
func TestAnyText(t *testing.T) {
	w, m := newWriter(8), newModel()
	for range 30000 {
		text := ""
		for range w.IntN(30) {
			text += of(w, append(otherTokens(), " ", " ", "#", "\n", "_", "!", "\x00", "\xff", "ü", "法", string(rune(w.IntN(300))))...)
			text += of(w, "", " ")
		}
		if w.IntN(2) == 0 {
			text = "act a: define x " + of(w, "if ", "from ", "notwithstanding ", "") + text
		}
		got, want := parse(text), m.parse(text)
		if !got.equal(want) {
			t.Fatalf("%q: %v instead of %v", text, got, want)
		}
	}
	for text, want := range map[string]result{
		"act a: define x if " + strings.Repeat("not ", 4990):                                 failed(api.ErrEnd, 19+4*4990),
		"act a: define x if " + strings.Repeat("not ", 4990) + "a":                           failed(api.ErrLimit, 19),
		"act a: define x if " + strings.Repeat("(", 4990):                                    failed(api.ErrEnd, 19+4990),
		"act a: define x from " + strings.Repeat("(", 4990) + ".":                            failed(api.ErrSyntax, 21+4990),
		"act a: define x if " + strings.Repeat("(", 2490) + "x" + strings.Repeat(")", 2490):  failed(api.ErrEnd, 19+2*2490+1),
		"act a: define x if " + strings.Repeat("(", 2490) + "x" + strings.Repeat(")", 2491):  failed(api.ErrSyntax, 19+2*2490+1),
		"act a: define x if " + strings.Repeat("(not ", 1600) + "x" + strings.Repeat(")", 9): failed(api.ErrEnd, 19+5*1600+10),
		"act a: define x if " + strings.Repeat("a and ", 2490) + "a.":                        failed(api.ErrLimit, 19),
		"act a: define x again " + strings.Repeat("never or ", 2000) + "day 1000001":         failed(api.ErrRange, 22+9*2000+4),
	} {
		if got := parse(text); !got.equal(want) {
			t.Errorf("%s: %v", brief(text), got)
		}
	}
}

// P3: equal texts have equal results, whatever was read before, and whatever became of earlier results.
func TestEqualTexts(t *testing.T) {
	w := newWriter(9)
	for range 3000 {
		tokens := w.tokens(w.provision())
		if w.IntN(3) == 0 {
			tokens = w.spoil(tokens)
		}
		text := w.join(tokens)
		bytes := []byte(text)
		first, second := parse(text), parse(string(bytes))
		if !first.equal(second) {
			t.Fatalf("%s: %v and %v", brief(text), first, second)
		}
		overwrite(&first.p)
		parse(w.join(w.tokens(w.provision())))
		if third := parse(text); !second.equal(third) || text != string(bytes) {
			t.Fatalf("%s: %v and %v", brief(text), second, third)
		}
	}
}

// overwrite changes all names and nodes of a provision.
func overwrite(p *api.Provision) {
	for i := range p.Except {
		p.Except[i] = "if"
	}
	var formula func(list []api.Formula)
	formula = func(list []api.Formula) {
		for i := range list {
			formula(list[i].Kids)
			list[i] = api.Formula{Op: 77, Name: "?"}
		}
	}
	var start func(list []api.Start)
	start = func(list []api.Start) {
		for i := range list {
			start(list[i].Kids)
			list[i] = api.Start{Op: 77, Name: "?"}
		}
	}
	formula(p.When.Kids)
	for _, s := range []api.Start{p.Begin, p.End, p.Again} {
		start(s.Kids)
	}
}

// Rules: no two slices of a result share memory: what is written behind the end of one is in no other one.
func TestMemory(t *testing.T) {
	w := newWriter(10)
	for range 3000 {
		p := w.provision()
		p.When, p.Begin, p.Again = w.formula(4), w.start(3), w.start(3)
		text := w.join(w.tokens(p))
		r := parse(text)
		fill(r.p.Except, "if")
		fillAll(r.p.When.Kids, api.Formula{Op: 77}, func(f api.Formula) []api.Formula { return f.Kids })
		for _, s := range []api.Start{r.p.Begin, r.p.End, r.p.Again} {
			fillAll(s.Kids, api.Start{Op: 77}, func(s api.Start) []api.Start { return s.Kids })
		}
		if !r.equal(result{p: p}) {
			t.Fatalf("%s: %v", brief(text), r)
		}
	}
}

// fill writes behind the end of a slice, as far as its memory goes.
func fill[T any](list []T, junk T) {
	behind := list[len(list):cap(list)]
	for i := range behind {
		behind[i] = junk
	}
}

// fillAll does so with the slices of all nodes.
func fillAll[T any](list []T, junk T, kids func(T) []T) {
	fill(list, junk)
	for _, node := range list {
		fillAll(kids(node), junk, kids)
	}
}
