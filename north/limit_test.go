package north

import (
	"slices"
	"strings"
	"testing"

	"pandect/api"
)

// Conditions of both kinds with a given size and depth are made here with the texts that mean them.

// kind is a kind of conditions: words of parts, how conditions are joined, and where such a condition may stand.
type kind[T any] struct {
	parts    []string
	and, or  func(kids ...T) T
	places   []string // texts with ? for the condition
	meaning  func(tokens string) T
	provided func(p *api.Provision) []*T // the conditions of this kind
}

func formulas() kind[api.Formula] {
	return kind[api.Formula]{
		parts: []string{"a", "b > 3", "true", "false", "c = 0"}, and: and, or: or,
		places: []string{"act i: define n if ?.", "act i: define n if ? notwithstanding b.", "act i: answer n is 3 if\n? from always until never."},
		meaning: func(text string) api.Formula {
			return map[string]api.Formula{"a": term("a"), "b > 3": test("b", api.CmpMore, 3), "true": yes(), "false": no(), "c = 0": test("c", api.CmpEqual, 0)}[text]
		},
		provided: func(p *api.Provision) []*api.Formula { return []*api.Formula{&p.When} },
	}
}

func starts() kind[api.Start] {
	return kind[api.Start]{
		parts: []string{"always", "day 7", "order o", "never", "over p"}, and: all, or: some,
		places: []string{"act i: define n from ?.", "act i: define n from ? until never.", "act i: define n if a until\n? again always.", "act i: define n until ?.", "act i: define n again ? .", "act i: answer n is 3 from always again(?)."},
		meaning: func(text string) api.Start {
			return map[string]api.Start{"always": always(), "day 7": day(7), "order o": order("o"), "never": never(), "over p": over("p")}[text]
		},
		provided: func(p *api.Provision) []*api.Start { return []*api.Start{&p.Begin, &p.End, &p.Again} },
	}
}

// sized is a condition with its text.
type sized[T any] struct {
	text        string
	means       T
	size, depth int
}

// single returns a condition of one node.
func (k kind[T]) single(i int) sized[T] {
	text := k.parts[i%len(k.parts)]
	return sized[T]{text, k.meaning(text), 1, 1}
}

// wide returns a condition of n nodes, n > 2, of which all but one are kids of the other one.
func (k kind[T]) wide(word string, n int) sized[T] {
	list := make([]sized[T], n-1)
	for i := range list {
		list[i] = k.single(i)
	}
	return k.joined(word, list...)
}

// joined returns conditions joined by a word, each of which but single parts is in parentheses.
func (k kind[T]) joined(word string, list ...sized[T]) sized[T] {
	whole := sized[T]{size: 1}
	var texts []string
	var kids []T
	for _, c := range list {
		if c.size > 1 {
			c.text = "(" + c.text + ")"
		}
		texts, kids = append(texts, c.text), append(kids, c.means)
		whole.size += c.size
		whole.depth = max(whole.depth, c.depth+1)
	}
	whole.text = strings.Join(texts, " "+word+" ")
	whole.means = map[string]func(...T) T{"and": k.and, "or": k.or}[word](kids...)
	return whole
}

// deep returns a condition of a depth with two kids in each level, joined by words in turn.
func (k kind[T]) deep(depth int, words ...string) sized[T] {
	c := k.single(depth)
	for i := range depth - 1 {
		pair := []sized[T]{c, k.single(i)}
		if i%3 == 0 {
			slices.Reverse(pair)
		}
		c = k.joined(words[i%len(words)], pair...)
	}
	return c
}

// enclosed returns the condition in parentheses.
func (c sized[T]) enclosed(n int) sized[T] {
	c.text = strings.Repeat("(", n) + c.text + strings.Repeat(")", n)
	return c
}

// conditions returns conditions at the limits, and beyond them.
func (k kind[T]) conditions() []sized[T] {
	var list []sized[T]
	add := func(c sized[T]) { list = append(list, c, c.enclosed(1), c.enclosed(7)) }
	for _, word := range []string{"and", "or"} {
		other := map[string]string{"and": "or", "or": "and"}[word]
		for _, n := range []int{199, 200, 201, 202, 400} {
			add(k.wide(word, n))
			add(k.joined(other, k.wide(word, n-2), k.single(1)))
			add(k.joined(word, k.single(2), k.wide(word, n-2)))
			add(k.joined(word, k.wide(other, 40), k.wide(word, n-40-60-1), k.wide(word, 60)))
		}
		for _, n := range []int{19, 20, 21, 22, 60} {
			add(k.deep(n, word))
			add(k.deep(n, word, other))
			add(k.joined(other, k.single(3), k.deep(n-1, word), k.single(4)))
		}
		add(k.joined(word, k.wide(other, 200-39-1), k.deep(20-1, word), k.single(0)))
		add(k.joined(word, k.wide(other, 201-37-1), k.deep(20-1, word)))
		add(k.joined(word, k.wide(other, 100), k.deep(20, word)))
		add(k.deep(120, word, other))
	}
	return list
}

// checkLimits checks conditions wherever they may stand.
func checkLimits[T any](t *testing.T, k kind[T], list []sized[T]) {
	t.Helper()
	m := newModel()
	within, beyond := 0, 0
	for _, c := range list {
		for _, place := range k.places {
			text := strings.Replace(place, "?", c.text, 1)
			at := strings.IndexAny(place, "?(") // one in parentheses begins with these
			got, want := parse(text), m.parse(text)
			if !got.equal(want) {
				t.Errorf("%s: %v instead of %v", brief(text), got, want)
			}
			if c.size > 200 || c.depth > 20 {
				beyond++
				if !got.equal(failed(api.ErrLimit, at)) {
					t.Errorf("size %d and depth %d, %s: %v", c.size, c.depth, brief(text), got)
				}
				continue
			}
			within++
			isThere := false
			for _, p := range k.provided(&got.p) {
				isThere = isThere || equalConditions(*p, c.means)
			}
			if got.err != api.OK || !isThere {
				t.Errorf("size %d and depth %d, %s: %v", c.size, c.depth, brief(text), got)
			}
		}
	}
	if within < 10 || beyond < 10 {
		t.Error(within, beyond)
	}
}

// equalConditions reports whether two conditions of one kind are equal.
func equalConditions[T any](a, b T) bool {
	switch x := any(a).(type) {
	case api.Formula:
		y := any(b).(api.Formula)
		return sameProvision(api.Provision{When: x}, api.Provision{When: y})
	case api.Start:
		y := any(b).(api.Start)
		return sameProvision(api.Provision{Begin: x}, api.Provision{Begin: y})
	}
	return false
}

// P8.1: conditions with a size of 200 and of 201, and a depth of 20 and of 21, in parentheses and without them, whole and
// as a part of another one.
func TestLimits(t *testing.T) {
	checkLimits(t, formulas(), formulas().conditions())
	checkLimits(t, starts(), starts().conditions())
}

// P8.1: a negation is a node and a level, and parentheses are none.
func TestLimitsOfNegations(t *testing.T) {
	k := formulas()
	negated := func(n int, c sized[api.Formula]) sized[api.Formula] {
		text := c.text
		if c.size > 1 {
			text = "(" + text + ")"
		}
		for range n {
			c = sized[api.Formula]{means: not(c.means), size: c.size + 1, depth: c.depth + 1}
		}
		c.text = strings.Repeat("not ", n) + text
		return c
	}
	var list []sized[api.Formula]
	for _, n := range []int{1, 2, 18, 19, 20, 21, 1000} {
		list = append(list, negated(n, k.single(n)), negated(n, k.single(n)).enclosed(2), negated(n-1, k.deep(2, "or")))
	}
	for _, n := range []int{197, 198, 199, 200, 201} {
		list = append(list, negated(1, k.wide("and", n)), negated(1, k.wide("or", n)).enclosed(1), negated(2, k.wide("or", n)))
	}
	for _, n := range []int{98, 99, 100} {
		// Of n parts, each is a negation of a part.
		c := sized[api.Formula]{text: strings.TrimPrefix(strings.Repeat(" and not a", n), " and "), size: 2*n + 1, depth: 3}
		for range n {
			c.means.Kids = append(c.means.Kids, not(term("a")))
		}
		c.means.Op = api.OpAnd
		list = append(list, c, negated(1, c))
	}
	for _, n := range []int{1, 300, 2400} {
		list = append(list, k.single(n).enclosed(n), k.wide("or", 20).enclosed(n))
	}
	checkLimits(t, k, list)
}

// P8.1: conditions that are too great, with whatever is behind them: they are complete at the token that cannot continue
// them, or at the end of the text, and this is found before the token there is read.
func TestBehindGreatConditions(t *testing.T) {
	m := newModel()
	f, s := formulas(), starts()
	for _, x := range []struct {
		begin, great, more string // more stands behind parts
	}{
		{"act i: define n if ", f.wide("or", 201).text, "and a"},
		{"act i: define n if ", f.wide("and", 400).text, "or a"},
		{"act i: define n if ", f.deep(21, "and", "or").text, "or not a"},
		{"act i: define n if ", strings.Repeat("not ", 20) + "a", "> 7"},
		{"act i: define n from ", s.wide("or", 201).text, "and always"},
		{"act i: define n until ", s.deep(21, "or").text, "or day 5"},
		{"act i: define n from always again ", s.wide("and", 201).text, "or day 5"},
	} {
		limit := failed(api.ErrLimit, len(x.begin))
		text := x.begin + x.great
		for rest, want := range map[string]result{
			"":                              limit, // the end of the text
			" ":                             limit,
			" # .":                          limit,
			".":                             limit,
			" .":                            limit,
			". .":                           limit,
			" )":                            limit,
			" x":                            limit,
			" is":                           limit,
			" 5":                            limit,
			" 1000001":                      limit,
			" ,":                            limit,
			" if a.":                        limit,
			" notwithstanding 5":            limit,
			" again day 1000001":            limit,
			" again":                        limit,
			" !":                            failed(api.ErrChar, len(text)+1),
			" . 7x":                         failed(api.ErrNumber, len(text)+3),
			" and":                          failed(api.ErrEnd, len(text)+4),
			" or ":                          failed(api.ErrEnd, len(text)+4),
			" and (":                        failed(api.ErrEnd, len(text)+6),
			" and .":                        failed(api.ErrSyntax, len(text)+5),
			" or )":                         failed(api.ErrSyntax, len(text)+4),
			" or or":                        failed(api.ErrSyntax, len(text)+4),
			" and 1000001":                  failed(api.ErrSyntax, len(text)+5),
			" and until never.":             failed(api.ErrSyntax, len(text)+5),
			" " + x.more + ".":              limit,
			" " + x.more:                    limit,
			" " + x.more + " )":             limit,
			" " + x.more + " and":           failed(api.ErrEnd, len(text)+5+len(x.more)),
			" " + x.more + " or .":          failed(api.ErrSyntax, len(text)+5+len(x.more)),
			" " + x.more + " or 7 1000001.": failed(api.ErrSyntax, len(text)+5+len(x.more)),
		} {
			if got := parse(text + rest); !got.equal(want) || !m.parse(text+rest).equal(want) {
				t.Errorf("%s, %q: %v instead of %v", brief(text), rest, got, want)
			}
		}
		// In parentheses, it is not complete before they are closed.
		open := x.begin + "(" + x.great
		for rest, want := range map[string]result{
			"":        failed(api.ErrEnd, len(open)),
			"\n":      failed(api.ErrEnd, len(open)+1),
			".":       failed(api.ErrSyntax, len(open)),
			" x).":    failed(api.ErrSyntax, len(open)+1),
			" until":  failed(api.ErrSyntax, len(open)+1),
			" and":    failed(api.ErrEnd, len(open)+4),
			" 5":      failed(api.ErrSyntax, len(open)+1),
			")":       limit,
			").":      limit,
			"))":      limit,
			") x":     limit,
			") or":    failed(api.ErrEnd, len(open)+4),
			") and .": failed(api.ErrSyntax, len(open)+6),
		} {
			if got := parse(open + rest); !got.equal(want) || !m.parse(open+rest).equal(want) {
				t.Errorf("%s, %q: %v instead of %v", brief(open), rest, got, want)
			}
		}
		for _, token := range otherTokens() {
			for _, text := range []string{text + " " + token, text + " " + token + " .", open + " " + token, open + ") " + token + " " + x.great} {
				if got, want := parse(text), m.parse(text); !got.equal(want) {
					t.Errorf("%s: %v instead of %v", brief(text), got, want)
				}
			}
		}
	}
}

// P8.1: numbers that are out of range in conditions that are too great are found before these are complete.
func TestNumbersInGreatConditions(t *testing.T) {
	f, s := formulas(), starts()
	for _, begin := range []string{"act i: define n if a > 1000001 and ", "act i: define n if a > 5 or ", "act i: define n if not not (true and "} {
		want := failed(api.ErrRange, strings.Index(begin, "1000001"))
		text := begin + f.wide("or", 300).text
		if want.at < 0 {
			want.at = len(text + " and x = ")
		}
		for _, rest := range []string{" and x = 9999999", " and x = 9999999.", " and x = 9999999)).", " and x = 9999999 or 5", " and x = 9999999 or"} {
			if got := parse(text + rest); !got.equal(want) {
				t.Errorf("%s: %v instead of %v", brief(text+rest), got, want)
			}
		}
	}
	for _, begin := range []string{"act i: define n from day 1000001 and ", "act i: define n until ", "act i: define n again ((always or "} {
		want := failed(api.ErrRange, strings.Index(begin, "1000001"))
		text := begin + s.wide("or", 300).text
		if want.at < 0 {
			want.at = len(text + " and day ")
		}
		for _, rest := range []string{" and day 1000001", " and day 1000001.", " and day 1000001)).", " and day 1000001 or 5"} {
			if got := parse(text + rest); !got.equal(want) {
				t.Errorf("%s: %v instead of %v", brief(text+rest), got, want)
			}
		}
	}
}

// slot is a piece of a text, with the error in it and its offset, or OK.
type slot struct {
	text string
	err  api.Errno
	at   int
}

// wrongAt returns a piece with an error at the place of a mark.
func wrongAt(err api.Errno, text string) slot {
	return slot{strings.Replace(text, "?", "", 1), err, strings.Index(text, "?")}
}

// P8.1: of several errors in one text, in each order, the one counts that is found first.
func TestSeveralErrors(t *testing.T) {
	many, more := formulas().wide("and", 201).text, starts().wide("or", 201).text
	good := func(text string) slot { return slot{text: text} }
	slots := [][]slot{
		{good("act a: answer q is 5 "), wrongAt(api.ErrRange, "act a: answer q is ?1000001 "), wrongAt(api.ErrSyntax, "act ?is: answer q is 1000001 "), wrongAt(api.ErrSyntax, "act a: answer ?5 is 1000001 ")},
		{good(""), good("if a "), wrongAt(api.ErrLimit, "if ?"+many+" "), wrongAt(api.ErrRange, "if b > ?1000001 and "+many+" "), wrongAt(api.ErrRange, "if "+many+" and b > ?1000001 "), wrongAt(api.ErrSyntax, "if "+many+" and ?) ")},
		{good(""), good("notwithstanding b, c "), wrongAt(api.ErrTwice, "notwithstanding b, c, ?b, c "), wrongAt(api.ErrLimit, "notwithstanding a,b,c,d,e,f,g,h,i,j,k,l,m,n,o,p,q,r,s,t, ?u, a "), wrongAt(api.ErrTwice, "notwithstanding a,b,c,d,e,f,g,h,i,j,k,l,m,n,o,p,q,r,s,t, ?t, u "), wrongAt(api.ErrSyntax, "notwithstanding b ?c, c, c ")},
		{good(""), good("from day 5 "), wrongAt(api.ErrRange, "from day ?1000001 or "+more+" "), wrongAt(api.ErrLimit, "from ?"+more+" ")},
		{good(""), wrongAt(api.ErrRange, "until day ?1000001 "), wrongAt(api.ErrLimit, "until ?"+more+" "), wrongAt(api.ErrSyntax, "until ?not never ")},
		{good(""), wrongAt(api.ErrLimit, "again ?"+more+" ")},
		{good("."), wrongAt(api.ErrSyntax, ". ?x"), wrongAt(api.ErrSyntax, "?;"), wrongAt(api.ErrEnd, "?")},
	}
	m := newModel()
	count := map[api.Errno]int{}
	var try func(i int, text string, first result)
	try = func(i int, text string, first result) {
		if i < len(slots) {
			for _, s := range slots[i] {
				if first.err == api.OK && s.err != api.OK {
					try(i+1, text+s.text, failed(s.err, len(text)+s.at))
				} else {
					try(i+1, text+s.text, first)
				}
			}
			return
		}
		got := parse(text)
		count[got.err]++
		if got.err != first.err || got.at != first.at || got.err != api.OK && !got.equal(first) {
			t.Fatalf("%s: %v instead of %v", brief(text), got, first)
		}
		if len(text) < 300 && !got.equal(m.parse(text)) {
			t.Fatalf("%s: %v", brief(text), got)
		}
	}
	try(0, "", result{})
	for _, err := range []api.Errno{api.OK, api.ErrSyntax, api.ErrEnd, api.ErrRange, api.ErrTwice, api.ErrLimit} {
		if count[err] < 5 {
			t.Errorf("only %d texts with the error %d", count[err], err)
		}
	}
}
