package fact

import (
	"slices"
	"strconv"
	"strings"
	"testing"

	"pandect/api"
	"pandect/lexer"
)

// brief writes a text that may be long.
func brief(text string) string {
	if len(text) > 200 {
		return strconv.Itoa(len(text)) + " bytes " + strconv.Quote(text[:200])
	}
	return strconv.Quote(text)
}

// P6.1: the examples of the chapter.
func TestExamples(t *testing.T) {
	if got := parse("age number 0 to 150; member flag;"); !got.equal(domainResult{domain: example()}) {
		t.Errorf("%v", got)
	}
	if got := parse("age number 5 to 4;"); !got.equal(noDomain(api.ErrRange, 16)) {
		t.Errorf("%v", got)
	}
	for text, want := range map[string]caseResult{
		"member = 1, age = 30":  {values: api.Case{30, 1}},
		"age = 151, member = 1": noCase(api.ErrRange, 6),
		"age = 30":              noCase(api.ErrNone, 8),
	} {
		if got := parseCase(example(), text); !got.equal(want) {
			t.Errorf("%q: %v", text, got)
		}
	}
	if got, ok := Next(example(), api.Case{30, 1}); !ok || !slices.Equal(got, api.Case{31, 0}) {
		t.Errorf("%v, %v", got, ok)
	}
	if got, ok := Next(example(), api.Case{150, 1}); ok || got != nil {
		t.Errorf("%v, %v", got, ok)
	}
}

// P6.1, F3: the domains of texts, whatever the facts are named and the numbers are written like.
func TestParse(t *testing.T) {
	for text, want := range map[string]api.Domain{
		"":                                   {},
		" \n\t":                              {},
		"# a flag;":                          {},
		"a flag;":                            domainOf(aFlag("a")),
		"a number 0 to 0;":                   domainOf(aNumber("a", 0, 0)),
		"a day 1 to 1;":                      domainOf(aDay("a", 1, 1)),
		"a number 0 to 1;":                   domainOf(aNumber("a", 0, 1)),
		"a number 0 to 1000000;":             domainOf(aNumber("a", 0, mostValue)),
		"a day 1000000 to 1000000;":          domainOf(aDay("a", mostValue, mostValue)),
		"a number 0000000 to 0000007;":       domainOf(aNumber("a", 0, 7)),
		"a day 007 to 0012;":                 domainOf(aDay("a", 7, 12)),
		"a number 09 to 10;":                 domainOf(aNumber("a", 9, 10)),
		"flag flag;":                         domainOf(aFlag("flag")),
		"to flag;flag number 1 to 2;":        domainOf(aFlag("to"), aNumber("flag", 1, 2)),
		"day day 1 to 2; to number 3 to 4;":  domainOf(aDay("day", 1, 2), aNumber("to", 3, 4)),
		"number number 1 to 2;number1 flag;": domainOf(aNumber("number", 1, 2), aFlag("number1")),
		"b flag; a flag; B flag;":            domainOf(aFlag("b"), aFlag("a"), aFlag("B")),
		"a flag;a_ flag;a0 day 5 to 6;":      domainOf(aFlag("a"), aFlag("a_"), aDay("a0", 5, 6)),
		"a23456789_123456789_1234 flag;":     domainOf(aFlag("a23456789_123456789_1234")),
		"a#;\nflag#\n;#;":                    domainOf(aFlag("a")),
	} {
		if got := parse(text); !got.equal(domainResult{domain: want}) {
			t.Errorf("%q: %v", text, got)
		}
	}
}

// P6.1, F3: texts of no domain: the first error from left to right counts.
func TestParseErrors(t *testing.T) {
	for text, want := range map[string]domainResult{
		";":                                    noDomain(api.ErrSyntax, 0),
		"7 flag;":                              noDomain(api.ErrSyntax, 0),
		"a flag;;":                             noDomain(api.ErrSyntax, 7),
		"a flag; 7":                            noDomain(api.ErrSyntax, 8),
		"a ;":                                  noDomain(api.ErrSyntax, 2),
		"a a":                                  noDomain(api.ErrSyntax, 2),
		"a Flag;":                              noDomain(api.ErrSyntax, 2),
		"a flags;":                             noDomain(api.ErrSyntax, 2),
		"a to;":                                noDomain(api.ErrSyntax, 2),
		"a 7":                                  noDomain(api.ErrSyntax, 2),
		"a flag 0 to 1;":                       noDomain(api.ErrSyntax, 7),
		"a flag,":                              noDomain(api.ErrSyntax, 6),
		"a flag b flag;":                       noDomain(api.ErrSyntax, 7),
		"a number;":                            noDomain(api.ErrSyntax, 8),
		"a number to 7;":                       noDomain(api.ErrSyntax, 9),
		"a number x to 7;":                     noDomain(api.ErrSyntax, 9),
		"a number 1, 7;":                       noDomain(api.ErrSyntax, 10),
		"a number 1 7;":                        noDomain(api.ErrSyntax, 11),
		"a number 1 To 7;":                     noDomain(api.ErrSyntax, 11),
		"a number 1 to to;":                    noDomain(api.ErrSyntax, 14),
		"a number 1 to ;":                      noDomain(api.ErrSyntax, 14),
		"a number 1 to 7 8;":                   noDomain(api.ErrSyntax, 16),
		"a day 1 to 7.":                        noDomain(api.ErrSyntax, 12),
		"a flag; a flag;":                      noDomain(api.ErrTwice, 8),
		"a flag; a":                            noDomain(api.ErrTwice, 8),
		"a flag; a 7":                          noDomain(api.ErrTwice, 8),
		"a flag; b flag; a day 9 to 8;":        noDomain(api.ErrTwice, 16),
		"flag flag; flag flag;":                noDomain(api.ErrTwice, 11),
		"a number 1000001 to 7;":               noDomain(api.ErrRange, 9),
		"a number 1000001":                     noDomain(api.ErrRange, 9),
		"a number 1000001 7":                   noDomain(api.ErrRange, 9),
		"a number 9999999 to 9999999;":         noDomain(api.ErrRange, 9),
		"a number 1 to 1000001;":               noDomain(api.ErrRange, 14),
		"a number 1000000 to 1000001;":         noDomain(api.ErrRange, 20),
		"a day 0 to 9999999":                   noDomain(api.ErrRange, 11),
		"a day 1000001 to 1000001;":            noDomain(api.ErrRange, 6),
		"a day 1 to 0;":                        noDomain(api.ErrRange, 11),
		"a day 1000000 to 999999":              noDomain(api.ErrRange, 17),
		"a day 10 to 9 x":                      noDomain(api.ErrRange, 12),
		"a day 2 to 0001;":                     noDomain(api.ErrRange, 11),
		"a":                                    noDomain(api.ErrEnd, 1),
		"a flag":                               noDomain(api.ErrEnd, 6),
		"a flag ":                              noDomain(api.ErrEnd, 7),
		"a flag # ;":                           noDomain(api.ErrEnd, 10),
		"a flag\n\n":                           noDomain(api.ErrEnd, 8),
		"a number":                             noDomain(api.ErrEnd, 8),
		"a number 1":                           noDomain(api.ErrEnd, 10),
		"a number 1 to":                        noDomain(api.ErrEnd, 13),
		"a number 1 to 7":                      noDomain(api.ErrEnd, 15),
		"a flag; b":                            noDomain(api.ErrEnd, 9),
		"a flag; b day 7":                      noDomain(api.ErrEnd, 15),
		"a flag; a flag; b day 9 to 8; ;":      noDomain(api.ErrTwice, 8),
		"b day 9 to 8; b flag; ;":              noDomain(api.ErrRange, 11),
		"; a flag; a flag;":                    noDomain(api.ErrSyntax, 0),
		"a flag flag; a day 9 to 8;":           noDomain(api.ErrSyntax, 7),
		"! a":                                  noDomain(api.ErrChar, 0),
		"a flag; a flag; !":                    noDomain(api.ErrChar, 16),
		"; 7x":                                 noDomain(api.ErrNumber, 2),
		"a number 1 to 10000000;":              noDomain(api.ErrNumber, 14),
		"a number -1 to 1;":                    noDomain(api.ErrChar, 9),
		"a flag; a flag; " + long25:            noDomain(api.ErrLimit, 16),
		strings.Repeat(" ", 20001):             noDomain(api.ErrLimit, -1),
		strings.Repeat(";", 20001):             noDomain(api.ErrLimit, -1),
		strings.Repeat(";", 5001):              noDomain(api.ErrLimit, 5000),
		strings.Repeat(";", 5000):              noDomain(api.ErrSyntax, 0),
		"a flag;" + strings.Repeat(" ", 19993): {domain: domainOf(aFlag("a"))},
		"a flag;" + strings.Repeat(" ", 19994): noDomain(api.ErrLimit, -1),
	} {
		if got := parse(text); !got.equal(want) {
			t.Errorf("%s: %v instead of %v", brief(text), got, want)
		}
	}
}

const long25 = "a23456789_123456789_12345"

// P6.1, F3: a domain has at most 60 facts; the name of the 61st one is an error, whatever follows it.
func TestParseLimitOfFacts(t *testing.T) {
	for _, n := range []int{1, 59, 60} {
		if got := parse(Text(flags(n))); !got.equal(domainResult{domain: flags(n)}) {
			t.Errorf("%d facts: %v", n, got)
		}
	}
	text := Text(flags(60))
	at := len(text)
	for more, want := range map[string]domainResult{
		"":                noDomain(api.OK, 0),
		" # a":            noDomain(api.OK, 0),
		"a":               noDomain(api.ErrLimit, at),
		"a flag;":         noDomain(api.ErrLimit, at),
		"\n\na flag;":     noDomain(api.ErrLimit, at+2),
		"a flag; b flag;": noDomain(api.ErrLimit, at),
		"a day 9 to 8;":   noDomain(api.ErrLimit, at),
		"a 7":             noDomain(api.ErrLimit, at),
		"a;":              noDomain(api.ErrLimit, at),
		"f0":              noDomain(api.ErrTwice, at),
		"f59 flag;":       noDomain(api.ErrTwice, at),
		"f60 flag;":       noDomain(api.ErrLimit, at),
		";":               noDomain(api.ErrSyntax, at),
		"7":               noDomain(api.ErrSyntax, at),
		"a flag; !":       noDomain(api.ErrChar, at+8),
	} {
		if want.err == api.OK {
			want.domain = flags(60)
		}
		if got := parse(text + more); !got.equal(want) {
			t.Errorf("%q: %v instead of %v", more, got, want)
		}
	}
	if got := parse("f0 flag; " + text); !got.equal(noDomain(api.ErrTwice, 9)) {
		t.Errorf("%v", got)
	}
	if got := parse("g day 9 to 8; " + text); !got.equal(noDomain(api.ErrRange, 11)) {
		t.Errorf("%v", got)
	}
}

// P6.1, F3: texts that end after each token, with gaps behind it or without, and a token too much after each token.
func TestParseEnds(t *testing.T) {
	d := domainOf(aNumber("age", 0, 150), aFlag("member"), aDay("to", 5, mostValue), aFlag("flag"), aNumber("day", 3, 4))
	text := Text(d)
	tokens, _, _ := lexer.Lex(text)
	facts := 0
	for i, token := range tokens {
		end := token.At + len(token.Text)
		whole := token.Text == ";"
		if whole {
			facts++
		}
		for _, gap := range append(someGaps(), "", "#", "# ;") {
			want := noDomain(api.ErrEnd, end+len(gap))
			if whole {
				want = domainResult{domain: domainOf(d.Facts[:facts]...)}
			}
			if got := parse(text[:end] + gap); !got.equal(want) {
				t.Errorf("%q and %q: %v", text[:end], gap, got)
			}
		}
		for _, more := range []string{"; ", "7 ", "x ", ", "} {
			expected := i+1 < len(tokens) && tokens[i+1].Kind == api.TokSymbol && more == "; " ||
				i+1 < len(tokens) && tokens[i+1].Kind == api.TokNumber && more == "7 " || whole && more == "x "
			if expected {
				continue
			}
			if got := parse(text[:end] + " " + more + text[end:]); !got.equal(noDomain(api.ErrSyntax, end+1)) {
				t.Errorf("%q and %q: %v", text[:end], more, got)
			}
		}
	}
}

// P6.1, F3: texts of at most 6 tokens of some, of which each list of tokens of a fact is one.
func TestParseShortTexts(t *testing.T) {
	m := newModelParser()
	count := map[api.Errno]int{}
	texts := append(shortTexts(5, "a", "flag", "number", "to", "1", "2", "1000001", ";", ","), shortTexts(6, "day", "to", "2", "01", ";")...)
	for _, text := range texts {
		for _, text := range []string{text, "a day 1 to 2; " + text} {
			got, want := parse(text), m.parse(text)
			if !got.equal(want) {
				t.Fatalf("%q: %v instead of %v", text, got, want)
			}
			count[want.err]++
		}
	}
	for _, err := range []api.Errno{api.OK, api.ErrSyntax, api.ErrEnd, api.ErrTwice, api.ErrRange} {
		if count[err] < 20 {
			t.Errorf("only %d texts with the error %d", count[err], err)
		}
	}
}

// P6.1, F3: texts of all kinds, with several errors among them, have the domain, or the error, of the model.
func TestParseAsDefined(t *testing.T) {
	w, m := newWriter(11), newModelParser()
	count := map[api.Errno]int{}
	for range 30000 {
		tokens := w.domainTokens(w.domain(of(w, 0, 1, 2, 3, 4, 8)))
		if w.IntN(8) > 0 {
			tokens = w.spoil(tokens)
		}
		text := w.join(tokens)
		got, want := parse(text), m.parse(text)
		if !got.equal(want) {
			t.Fatalf("%q: %v instead of %v", text, got, want)
		}
		count[want.err]++
	}
	for range 1000 {
		tokens := w.domainTokens(w.domain(of(w, 58, 59, 60, 61, 62)))
		for range w.IntN(3) {
			tokens[w.IntN(len(tokens))] = of(w, "1", "flag", "f", ";", tokens[0])
		}
		text := w.join(tokens)
		got, want := parse(text), m.parse(text)
		if !got.equal(want) {
			t.Fatalf("%s: %v instead of %v", brief(text), got, want)
		}
		count[want.err]++
	}
	for _, err := range []api.Errno{api.OK, api.ErrSyntax, api.ErrEnd, api.ErrTwice, api.ErrRange, api.ErrLimit, api.ErrChar, api.ErrNumber} {
		if count[err] < 100 {
			t.Errorf("only %d texts with the error %d", count[err], err)
		}
	}
}

// P6.1, F4: the cases of texts, the empty one among them.
func TestParseCase(t *testing.T) {
	wide := domainOf(aDay("day", 0, mostValue), aNumber("to", 7, 9), aFlag("flag"))
	for _, test := range []struct {
		d    api.Domain
		text string
		want api.Case
	}{
		{api.Domain{}, "", nil},
		{api.Domain{}, " # a = 1\n", nil},
		{example(), "age = 30, member = 1", api.Case{30, 1}},
		{example(), "member=0,age=0", api.Case{0, 0}},
		{example(), "age = 150, member = 1", api.Case{150, 1}},
		{example(), "age = 0000030, member = 01", api.Case{30, 1}},
		{example(), "#\nage#\n=#\n30#\n,#\nmember#\n=#\n1#", api.Case{30, 1}},
		{wide, "to = 8, flag = 1, day = 1000000", api.Case{1000000, 8, 1}},
		{wide, "flag = 0, day = 0, to = 7", api.Case{0, 7, 0}},
		{wide, "day = 5, to = 009, flag = 0000000", api.Case{5, 9, 0}},
		{domainOf(aFlag("is")), "is = 1", api.Case{1}},
	} {
		if got := parseCase(test.d, test.text); !got.equal(caseResult{values: test.want}) {
			t.Errorf("%q: %v", test.text, got)
		}
	}
}

// P6.1, F4: texts of no case: the first error from left to right counts.
func TestParseCaseErrors(t *testing.T) {
	d := domainOf(aNumber("age", 18, 150), aFlag("member"), aDay("born", 0, mostValue))
	for text, want := range map[string]caseResult{
		"":                                    noCase(api.ErrNone, 0),
		" # \n":                               noCase(api.ErrNone, 4),
		",":                                   noCase(api.ErrSyntax, 0),
		"7":                                   noCase(api.ErrSyntax, 0),
		"= 7":                                 noCase(api.ErrSyntax, 0),
		"age 30":                              noCase(api.ErrSyntax, 4),
		"age : 30":                            noCase(api.ErrSyntax, 4),
		"age , member":                        noCase(api.ErrSyntax, 4),
		"age != 30":                           noCase(api.ErrSyntax, 4),
		"age == 30":                           noCase(api.ErrSyntax, 5),
		"age = member":                        noCase(api.ErrSyntax, 6),
		"age = , member = 1":                  noCase(api.ErrSyntax, 6),
		"age = 30 member = 1":                 noCase(api.ErrSyntax, 9),
		"age = 30; member = 1":                noCase(api.ErrSyntax, 8),
		"age = 30 31":                         noCase(api.ErrSyntax, 9),
		"age = 30,, member = 1":               noCase(api.ErrSyntax, 9),
		"age = 30, 7":                         noCase(api.ErrSyntax, 10),
		"x = 1":                               noCase(api.ErrName, 0),
		"x":                                   noCase(api.ErrName, 0),
		"x x":                                 noCase(api.ErrName, 0),
		"Age = 30":                            noCase(api.ErrName, 0),
		"age = 30, x = 1":                     noCase(api.ErrName, 10),
		"age = 30, x = 1, x = 2":              noCase(api.ErrName, 10),
		"age = 30, age = 30":                  noCase(api.ErrTwice, 10),
		"age = 30, age":                       noCase(api.ErrTwice, 10),
		"age = 30, age 7":                     noCase(api.ErrTwice, 10),
		"age = 30, age = 999":                 noCase(api.ErrTwice, 10),
		"age = 17":                            noCase(api.ErrRange, 6),
		"age = 0017, x":                       noCase(api.ErrRange, 6),
		"age = 151":                           noCase(api.ErrRange, 6),
		"age = 151, age = 30":                 noCase(api.ErrRange, 6),
		"member = 2":                          noCase(api.ErrRange, 9),
		"born = 1000001":                      noCase(api.ErrRange, 7),
		"born = 9999999 ;":                    noCase(api.ErrRange, 7),
		"age":                                 noCase(api.ErrEnd, 3),
		"age =":                               noCase(api.ErrEnd, 5),
		"age = ":                              noCase(api.ErrEnd, 6),
		"age = 30,":                           noCase(api.ErrEnd, 9),
		"age = 30, # x\n":                     noCase(api.ErrEnd, 14),
		"age = 30, member":                    noCase(api.ErrEnd, 16),
		"age = 30, member =":                  noCase(api.ErrEnd, 18),
		"age = 30":                            noCase(api.ErrNone, 8),
		"age = 30 # , member = 1\n ":          noCase(api.ErrNone, 25),
		"member = 1, age = 30":                noCase(api.ErrNone, 20),
		"born = 0, member = 1":                noCase(api.ErrNone, 20),
		"age = 18, member = 1, born = 5,":     noCase(api.ErrEnd, 31),
		"age = 18, member = 1, born = 5, ":    noCase(api.ErrEnd, 32),
		"age = 18, member = 1, born = 5;":     noCase(api.ErrSyntax, 30),
		"age = 18, member = 1, born = 5 7":    noCase(api.ErrSyntax, 31),
		"age = 18, member = 1, born = 5, x":   noCase(api.ErrName, 32),
		"age = 18, member = 1, born = 5, age": noCase(api.ErrTwice, 32),
		"age = 18, member = 1, born = 5 # ,":  {values: api.Case{18, 1, 5}},
		"age = 151, age = 30, x = 1, = ,":     noCase(api.ErrRange, 6),
		"x = 151, age = 151, age = 1, = ,":    noCase(api.ErrName, 0),
		"age = 30, age = 151, x = 1, = ,":     noCase(api.ErrTwice, 10),
		"age = = , age = 151, x = 1, age = 7": noCase(api.ErrSyntax, 6),
		"x = 151 !":                           noCase(api.ErrChar, 8),
		", 7x":                                noCase(api.ErrNumber, 2),
		"age = -1":                            noCase(api.ErrChar, 6),
		"age = 10000000":                      noCase(api.ErrNumber, 6),
		", " + long25:                         noCase(api.ErrLimit, 2),
		long25 + " = 1":                       noCase(api.ErrLimit, 0),
		strings.Repeat(" ", 20001):            noCase(api.ErrLimit, -1),
		strings.Repeat(" ", 20000):            noCase(api.ErrNone, 20000),
		strings.Repeat(",", 5001):             noCase(api.ErrLimit, 5000),
		strings.Repeat(",", 5000):             noCase(api.ErrSyntax, 0),
		"member = 1," + strings.Repeat(" ", 19989): noCase(api.ErrEnd, 20000),
	} {
		if got := parseCase(d, text); !got.equal(want) {
			t.Errorf("%s: %v instead of %v", brief(text), got, want)
		}
	}
	for text, want := range map[string]caseResult{"x": noCase(api.ErrName, 0), "x = 1": noCase(api.ErrName, 0), "=": noCase(api.ErrSyntax, 0), ",": noCase(api.ErrSyntax, 0), "!": noCase(api.ErrChar, 0)} {
		if got := parseCase(api.Domain{}, text); !got.equal(want) {
			t.Errorf("no facts, %q: %v instead of %v", text, got, want)
		}
	}
}

// P6.1, F4: a domain that is not valid is the error that counts, whatever the text is.
func TestParseCaseOfNoDomain(t *testing.T) {
	for _, d := range []api.Domain{
		flags(61), domainOf(aFlag("a"), aFlag("a")), domainOf(aNumber("a", 2, 1)), domainOf(aNumber("a", -1, 1)), domainOf(aDay("a", 0, mostValue+1)),
		domainOf(aFlag("")), domainOf(aFlag("7")), domainOf(api.Fact{Name: "a", Kind: 4, Hi: 1}), domainOf(api.Fact{Name: "a", Kind: api.FactFlag}),
	} {
		for _, text := range []string{"", "a = 1", "a = 0", "x", ",", "!", "a 7x", strings.Repeat(";", 5001), strings.Repeat(" ", 20001)} {
			if got := parseCase(d, text); !got.equal(noCase(api.ErrArg, 0)) {
				t.Errorf("%v, %s: %v", d, brief(text), got)
			}
		}
	}
}

// P6.1, F4: texts that end after each token, with gaps behind it or without, and a token too much after each token.
func TestParseCaseEnds(t *testing.T) {
	d := domainOf(aNumber("age", 0, 150), aFlag("to"), aDay("day", 5, mostValue))
	text := CaseText(d, api.Case{149, 0, 77})
	tokens, _, _ := lexer.Lex(text)
	for i, token := range tokens {
		end := token.At + len(token.Text)
		for _, gap := range append(someGaps(), "", "#", "# ,") {
			want := noCase(api.ErrEnd, end+len(gap))
			switch {
			case i == len(tokens)-1:
				want = caseResult{values: api.Case{149, 0, 77}}
			case token.Kind == api.TokNumber:
				want.err = api.ErrNone
			}
			if got := parseCase(d, text[:end]+gap); !got.equal(want) {
				t.Errorf("%q and %q: %v", text[:end], gap, got)
			}
		}
		for _, more := range []string{"= ", ", ", "7 ", "age ", "x ", "; "} {
			follows := map[string]bool{"= ": token.Kind == api.TokName, "7 ": token.Text == "=", ", ": token.Kind == api.TokNumber, "age ": token.Text == ",", "x ": token.Text == ","}
			if follows[more] {
				continue
			}
			if got := parseCase(d, text[:end]+" "+more+text[end:]); !got.equal(noCase(api.ErrSyntax, end+1)) {
				t.Errorf("%q and %q: %v", text[:end], more, got)
			}
		}
	}
}

// P6.1, F4: texts of at most 7 tokens of some, for domains with and without the facts that they name.
func TestParseCaseShortTexts(t *testing.T) {
	m := newModelParser()
	count := map[api.Errno]int{}
	domains := []api.Domain{{}, domainOf(aFlag("a")), domainOf(aNumber("b", 2, 3), aFlag("a"))}
	texts := append(shortTexts(5, "a", "b", "=", "1", "2", "04", ",", ";"), shortTexts(7, "a", "b", "=", "1", ",")...)
	for _, text := range shortTexts(4, "a", "b", "=", "0", "4", ",") {
		texts = append(texts, "b = 3, "+text)
	}
	for _, text := range texts {
		for _, d := range domains {
			got, want := parseCase(d, text), m.parseCase(d, text)
			if !got.equal(want) {
				t.Fatalf("%v, %q: %v instead of %v", d, text, got, want)
			}
			count[want.err]++
		}
	}
	for _, err := range []api.Errno{api.OK, api.ErrSyntax, api.ErrEnd, api.ErrTwice, api.ErrRange, api.ErrName, api.ErrNone} {
		if count[err] < 4 {
			t.Errorf("only %d texts with the error %d", count[err], err)
		}
	}
}

// P6.1, F4: texts of all kinds, with several errors among them, have the case, or the error, of the model.
func TestParseCaseAsDefined(t *testing.T) {
	w, m := newWriter(12), newModelParser()
	count := map[api.Errno]int{}
	for range 15000 {
		d := w.domain(of(w, 0, 1, 2, 3, 4, 8, 60))
		c := w.values(d)
		if len(c) > 0 && w.IntN(4) == 0 {
			i := w.IntN(len(c))
			c[i] = max(0, of(w, d.Facts[i].Lo-1, d.Facts[i].Hi+1, 9999999))
		}
		order := w.Perm(len(c))
		order = append(order, order[:w.IntN(2)*len(order)/4]...)
		tokens := w.caseTokens(d, c, order)
		if w.IntN(3) > 0 {
			tokens = w.spoil(tokens)
		}
		if w.IntN(16) == 0 {
			d = w.anyDomain()
		}
		text := w.join(tokens)
		got, want := parseCase(d, text), m.parseCase(d, text)
		if !got.equal(want) {
			t.Fatalf("%v, %s: %v instead of %v", d, brief(text), got, want)
		}
		count[want.err]++
	}
	for _, err := range []api.Errno{api.OK, api.ErrSyntax, api.ErrEnd, api.ErrTwice, api.ErrRange, api.ErrName, api.ErrNone, api.ErrArg, api.ErrChar, api.ErrNumber} {
		if count[err] < 100 {
			t.Errorf("only %d texts with the error %d", count[err], err)
		}
	}
}

// P6.1: a text with an error of layer 5 has this error, at its offset.
func TestErrorsOfTokens(t *testing.T) {
	w := newWriter(13)
	d := domainOf(aFlag("a"), aNumber("b", 0, mostValue))
	for range 2000 {
		text := w.join(w.domainTokens(w.domain(w.IntN(4)))) + "\n" + of(w, "!", "_", "7x", "12345678", long25, "\r", "\x00", "ü", "-", "a\xff") + w.join(w.domainTokens(w.domain(w.IntN(3))))
		_, err, at := lexer.Lex(text)
		if err == api.OK {
			t.Fatalf("%q has no error", text)
		}
		if got := parse(text); !got.equal(noDomain(err, at)) {
			t.Fatalf("%q: %v", text, got)
		}
		if got := parseCase(d, text); !got.equal(noCase(err, at)) {
			t.Fatalf("%q: %v", text, got)
		}
	}
}

// P6.2: the canonical text of a domain is a text of this domain, however long it is.
func TestDomainsAgain(t *testing.T) {
	w := newWriter(14)
	longest := api.Domain{}
	for i := range 60 {
		longest.Facts = append(longest.Facts, aNumber("a23456789_123456789_12"+strconv.Itoa(10+i), mostValue, mostValue))
	}
	all := []api.Domain{{}, example(), flags(60), longest, domainOf(aFlag("flag"), aNumber("number", 0, 0), aDay("day", 0, 1), aFlag("to"))}
	for range 5000 {
		all = append(all, w.domain(of(w, 0, 1, 2, 3, 10, 59, 60)))
	}
	for _, d := range all {
		if got := parse(Text(d)); !got.equal(domainResult{domain: d}) {
			t.Fatalf("%v: %v", d, got)
		}
	}
}

// P6.2: different valid domains have different canonical texts, in whatever they differ.
func TestDifferentDomains(t *testing.T) {
	var facts []api.Fact
	for _, name := range []string{"a", "A", "a1", "flag", "number", "day", "to"} {
		facts = append(facts, aFlag(name))
		for _, bounds := range [][2]int{{0, 0}, {0, 1}, {0, 10}, {1, 1}, {1, 10}, {10, 10}, {1, 100}, {10, 100}, {0, mostValue}, {100000, mostValue}} {
			facts = append(facts, aNumber(name, bounds[0], bounds[1]), aDay(name, bounds[0], bounds[1]))
		}
	}
	texts := map[string]bool{}
	n := 0
	add := func(d api.Domain) {
		if Valid(d) {
			n++
			texts[Text(d)] = true
		}
	}
	add(api.Domain{})
	for _, first := range facts {
		add(domainOf(first))
		for _, second := range facts {
			add(domainOf(first, second))
		}
	}
	if len(texts) != n || n < 10000 {
		t.Errorf("%d texts of %d domains", len(texts), n)
	}
}

// P6.2: what is read from any text is valid, and its canonical text is one of it.
func TestReadDomains(t *testing.T) {
	w := newWriter(15)
	read := 0
	for range 8000 {
		tokens := w.domainTokens(w.domain(of(w, 1, 2, 3, 60)))
		if w.IntN(4) > 0 {
			tokens = w.spoil(tokens)
		}
		r := parse(w.join(tokens))
		if r.err != api.OK {
			if r.domain.Facts != nil {
				t.Fatalf("%v: %v", tokens, r)
			}
			continue
		}
		read++
		if !Valid(r.domain) || !modelValid(r.domain) || !parse(Text(r.domain)).equal(r) {
			t.Fatalf("%v: %v", tokens, r)
		}
	}
	if read < 1000 {
		t.Errorf("only %d domains were read", read)
	}
}

// P6.3: the canonical text of a case is a text of this case.
func TestCasesAgain(t *testing.T) {
	w := newWriter(16)
	check := func(d api.Domain, c api.Case) {
		t.Helper()
		if got := parseCase(d, CaseText(d, c)); !got.equal(caseResult{values: c}) {
			t.Fatalf("%v, %v: %v", d, c, got)
		}
	}
	check(api.Domain{}, nil)
	for _, c := range modelCases(example()) {
		check(example(), c)
	}
	for range 5000 {
		d := w.domain(of(w, 0, 1, 2, 3, 10, 59, 60))
		check(d, w.values(d))
	}
}

// P6.3: different cases that fit have different canonical texts.
func TestDifferentCases(t *testing.T) {
	for _, d := range []api.Domain{example(), flags(10), domainOf(aNumber("a", 0, 120), aDay("b", 9, 112)), domainOf(aDay("flag", 99998, 100012), aFlag("a"), aNumber("to", 0, 11))} {
		texts := map[string]bool{}
		all := modelCases(d)
		for _, c := range all {
			texts[CaseText(d, c)] = true
		}
		if len(texts) != len(all) {
			t.Errorf("%v: %d texts of %d cases", d, len(texts), len(all))
		}
	}
}

// P6.3: what is read from any text fits.
func TestReadCases(t *testing.T) {
	w := newWriter(17)
	read := 0
	for range 20000 {
		d := w.domain(of(w, 1, 2, 3, 8))
		tokens := w.caseTokens(d, w.values(d), w.Perm(len(d.Facts)))
		if w.IntN(4) > 0 {
			tokens = w.spoil(tokens)
		}
		r := parseCase(d, w.join(tokens))
		if r.err != api.OK {
			if r.values != nil {
				t.Fatalf("%v: %v", tokens, r)
			}
			continue
		}
		read++
		if !Fits(d, r.values) || !modelFits(d, r.values) || !parseCase(d, CaseText(d, r.values)).equal(r) {
			t.Fatalf("%v: %v", tokens, r)
		}
	}
	if read < 2000 {
		t.Errorf("only %d cases were read", read)
	}
}

// P6.4: values in another order make the same case: all orders of few values, and some of many.
func TestOrder(t *testing.T) {
	w := newWriter(18)
	d := domainOf(aNumber("a", 0, 9), aFlag("b"), aDay("c", 5, 7), aNumber("d", 3, 3), aFlag("e"))
	var orders func(order, left []int)
	c := api.Case{9, 1, 6, 3, 0}
	orders = func(order, left []int) {
		if len(left) == 0 {
			if got := parseCase(d, strings.Join(w.caseTokens(d, c, order), " ")); !got.equal(caseResult{values: c}) {
				t.Errorf("%v: %v", order, got)
			}
		}
		for i := range left {
			orders(append(slices.Clone(order), left[i]), slices.Delete(slices.Clone(left), i, i+1))
		}
	}
	orders(nil, []int{0, 1, 2, 3, 4})
	for range 3000 {
		d := w.domain(of(w, 2, 3, 10, 59, 60))
		c := w.values(d)
		text := strings.Join(w.caseTokens(d, c, w.Perm(len(c))), " ")
		if got := parseCase(d, text); !got.equal(caseResult{values: c}) {
			t.Fatalf("%v, %s: %v", d, brief(text), got)
		}
	}
}

// P6.6: gaps make no difference between tokens, at the beginning and at the end; errors stand at the same tokens.
func TestGaps(t *testing.T) {
	w := newWriter(19)
	d := domainOf(aNumber("a", 0, 9), aFlag("flag"), aDay("to", 5, 7))
	for i := range 20000 {
		var tokens []string
		if i%2 == 0 {
			tokens = w.domainTokens(w.domain(w.IntN(5)))
		} else {
			tokens = w.caseTokens(d, w.values(d), w.Perm(3))
		}
		if w.IntN(2) == 0 {
			tokens = w.spoil(tokens)
		}
		one, other := strings.Join(tokens, " "), w.join(tokens)
		a, b := parse(one), parse(other)
		if !sameDomain(a.domain, b.domain) || a.err != b.err || place(one, a.err, a.at) != place(other, b.err, b.at) {
			t.Fatalf("%q: %v; %q: %v", one, a, other, b)
		}
		p, q := parseCase(d, one), parseCase(d, other)
		if !slices.Equal(p.values, q.values) || p.err != q.err || place(one, p.err, p.at) != place(other, q.err, q.at) {
			t.Fatalf("%q: %v; %q: %v", one, p, other, q)
		}
	}
}

// place returns the number of tokens before an error, one more for the end of the text, and the offset 0 without an error.
func place(text string, err api.Errno, at int) int {
	if err == api.OK {
		return at
	}
	tokens, _, _ := lexer.Lex(text[:at])
	if at == len(text) {
		return len(tokens) + 1
	}
	return len(tokens)
}

// P6.6: each gap at each place of a text.
func TestEveryGap(t *testing.T) {
	domainTokens := []string{"age", "number", "0", "to", "150", ";", "member", "flag", ";", "b", "day", "5", "to", "6", ";"}
	caseTokens := []string{"member", "=", "1", ",", "b", "=", "6", ",", "age", "=", "30"}
	d := domainOf(append(example().Facts, aDay("b", 5, 6))...)
	for _, gap := range append(someGaps(), strings.Repeat(" ", 10000), strings.Repeat("# ;\n", 2500)) {
		for i := range len(domainTokens) + 1 {
			text := strings.Join(domainTokens[:i], " ") + " " + gap + strings.Join(domainTokens[i:], " ")
			if got := parse(text); !got.equal(domainResult{domain: d}) {
				t.Errorf("%s: %v", brief(text), got)
			}
		}
		for i := range len(caseTokens) + 1 {
			text := strings.Join(caseTokens[:i], " ") + " " + gap + strings.Join(caseTokens[i:], " ")
			if got := parseCase(d, text); !got.equal(caseResult{values: api.Case{30, 1, 6}}) {
				t.Errorf("%s: %v", brief(text), got)
			}
		}
	}
}
