package north

import (
	"cmp"
	"fmt"
	"math/rand/v2"
	"reflect"
	"regexp"
	"slices"
	"strconv"
	"strings"

	"pandect/api"
	"pandect/lexer"
)

// The model comes to the same results in another way than package north: a recognizer for any grammar, which is given
// that of the chapter, says which tokens begin a text; all errors of a text are collected, and the one that is found first
// is chosen afterwards; parts are found by their key words, and conditions split at `or`, and then at `and`.

const (
	mostNames, mostValue, mostSize, mostDepth = 20, 1000000, 200, 20
	long25                                    = "abcdefghijklmnopqrstuvwxy"
)

func yes() api.Formula              { return api.Formula{Op: api.OpTrue} }
func no() api.Formula               { return api.Formula{Op: api.OpFalse} }
func term(name string) api.Formula  { return api.Formula{Op: api.OpTerm, Name: name} }
func not(f api.Formula) api.Formula { return api.Formula{Op: api.OpNot, Kids: []api.Formula{f}} }

func test(name string, how, n int) api.Formula {
	return api.Formula{Op: api.OpTest, Name: name, Cmp: how, N: n}
}

func and(kids ...api.Formula) api.Formula { return api.Formula{Op: api.OpAnd, Kids: kids} }
func or(kids ...api.Formula) api.Formula  { return api.Formula{Op: api.OpOr, Kids: kids} }

func always() api.Start                { return api.Start{Op: api.StartAlways} }
func never() api.Start                 { return api.Start{Op: api.StartNever} }
func day(n int) api.Start              { return api.Start{Op: api.StartDay, Day: n} }
func order(name string) api.Start      { return api.Start{Op: api.StartOrder, Name: name} }
func event(name string) api.Start      { return api.Start{Op: api.StartEvent, Name: name} }
func begun(name string) api.Start      { return api.Start{Op: api.StartBegun, Name: name} }
func over(name string) api.Start       { return api.Start{Op: api.StartOver, Name: name} }
func all(kids ...api.Start) api.Start  { return api.Start{Op: api.StartAll, Kids: kids} }
func some(kids ...api.Start) api.Start { return api.Start{Op: api.StartAny, Kids: kids} }

// theTerm returns a definition without further parts.
func theTerm(rank int, id, name string) api.Provision {
	return api.Provision{Rank: rank, Id: id, Kind: api.ProvTerm, Name: name, When: yes(), Begin: always(), End: never(), Again: never()}
}

// theRule returns a rule without further parts.
func theRule(rank int, id, name string, value int) api.Provision {
	p := theTerm(rank, id, name)
	p.Kind, p.Value = api.ProvRule, value
	return p
}

// result is what Parse returns.
type result struct {
	p   api.Provision
	err api.Errno
	at  int
}

func parse(text string) result {
	p, err, at := Parse(text)
	return result{p, err, at}
}

func failed(err api.Errno, at int) result { return result{err: err, at: at} }

// plain returns a provision without empty slices, in which nil and empty ones would differ.
func plain(p api.Provision) api.Provision {
	p.Except = plainList(p.Except, func(name string) string { return name })
	p.When = plainFormula(p.When)
	p.Begin, p.End, p.Again = plainStart(p.Begin), plainStart(p.End), plainStart(p.Again)
	return p
}

func plainFormula(f api.Formula) api.Formula {
	f.Kids = plainList(f.Kids, plainFormula)
	return f
}

func plainStart(s api.Start) api.Start {
	s.Kids = plainList(s.Kids, plainStart)
	return s
}

func plainList[T any](l []T, plain func(T) T) []T {
	var list []T
	for _, x := range l {
		list = append(list, plain(x))
	}
	return list
}

func sameProvision(a, b api.Provision) bool { return reflect.DeepEqual(plain(a), plain(b)) }

func (r result) equal(other result) bool {
	return r.err == other.err && r.at == other.at && sameProvision(r.p, other.p)
}

// model has the recognizer with what it knows already.
type model struct{ *recognizer }

func newModel() model { return model{newRecognizer(chapterGrammar)} }

// finding is an error of a text at an offset, and when it is found: 2n+1 with the token n, 2n before this is read.
type finding struct {
	when int
	err  api.Errno
	at   int
}

// parse returns what Parse should return.
func (m model) parse(text string) result {
	tokens, err, at := lexer.Lex(text)
	if err != api.OK {
		return failed(err, at)
	}
	found := slices.Concat(m.syntax(tokens, len(text)), m.ranges(tokens), m.names(tokens), m.sizes(tokens))
	if len(found) == 0 {
		return result{p: modelProvision(tokens)}
	}
	first := slices.MinFunc(found, func(a, b finding) int { return cmp.Compare(a.when, b.when) })
	return failed(first.err, first.at)
}

// syntax returns the error of tokens that are no text.
func (m model) syntax(tokens []api.Token, length int) []finding {
	symbols := m.symbols(tokens)
	good := m.begins(symbols)
	switch {
	case good < len(tokens):
		return []finding{{2*good + 1, api.ErrSyntax, tokens[good].At}}
	case !m.whole(symbols):
		return []finding{{2*good + 1, api.ErrEnd, length}}
	}
	return nil
}

// good returns the tokens that begin a text.
func (m model) good(tokens []api.Token) []api.Token { return tokens[:m.begins(m.symbols(tokens))] }

// ranges returns the errors of numbers: wherever a text has one, it is bounded.
func (m model) ranges(tokens []api.Token) []finding {
	var found []finding
	for i, token := range m.good(tokens) {
		if token.Kind == api.TokNumber && token.N > mostValue {
			found = append(found, finding{2*i + 1, api.ErrRange, token.At})
		}
	}
	return found
}

// names returns the errors of names after `notwithstanding`.
func (m model) names(tokens []api.Token) []finding {
	var found []finding
	before := map[string]bool{}
	from, to := part(m.good(tokens), "notwithstanding")
	for i := from; i < to; i += 2 {
		switch {
		case before[tokens[i].Text]:
			found = append(found, finding{2*i + 1, api.ErrTwice, tokens[i].At})
		case len(before) == mostNames:
			found = append(found, finding{2*i + 1, api.ErrLimit, tokens[i].At})
		}
		before[tokens[i].Text] = true
	}
	return found
}

// sizes returns the errors of conditions that are too great. A condition is complete if the text may end behind it.
func (m model) sizes(tokens []api.Token) []finding {
	var found []finding
	good := m.good(tokens)
	for _, word := range []string{"if", "from", "until", "again"} {
		from, to := part(good, word)
		stop := api.Token{Kind: api.TokSymbol, Text: "."}
		if from < 0 || to == len(good) && !m.whole(m.symbols(append(slices.Clone(good), stop))) {
			continue
		}
		size, depth := 0, 0
		if word == "if" {
			size, depth = sizeOfFormula(modelFormula(good[from:to]))
		} else {
			size, depth = sizeOfStart(modelStart(good[from:to]))
		}
		if size > mostSize || depth > mostDepth {
			found = append(found, finding{2 * to, api.ErrLimit, tokens[from].At})
		}
	}
	return found
}

// part returns where the part after a key word begins and ends, -1 and -1 if it is not there.
func part(tokens []api.Token, word string) (int, int) {
	from := slices.IndexFunc(tokens, func(token api.Token) bool { return token.Text == word })
	if from < 0 {
		return -1, -1
	}
	to := from + 1
	for to < len(tokens) && !slices.Contains([]string{"if", "notwithstanding", "from", "until", "again", "."}, tokens[to].Text) {
		to++
	}
	return from + 1, to
}

// modelProvision returns the provision of tokens that are a text.
func modelProvision(tokens []api.Token) api.Provision {
	ranks := map[string]int{"constitution": 1, "act": 2, "regulation": 3, "bylaw": 4}
	p := theTerm(ranks[tokens[0].Text], tokens[1].Text, tokens[4].Text)
	if tokens[3].Text == "answer" {
		p = theRule(p.Rank, p.Id, p.Name, tokens[6].N)
	}
	if from, to := part(tokens, "if"); from >= 0 {
		p.When = modelFormula(tokens[from:to])
	}
	if from, to := part(tokens, "notwithstanding"); from >= 0 {
		for ; from < to; from += 2 {
			p.Except = append(p.Except, tokens[from].Text)
		}
	}
	for word, start := range map[string]*api.Start{"from": &p.Begin, "until": &p.End, "again": &p.Again} {
		if from, to := part(tokens, word); from >= 0 {
			*start = modelStart(tokens[from:to])
		}
	}
	return p
}

// split divides tokens at a word outside of parentheses.
func split(tokens []api.Token, word string) [][]api.Token {
	var parts [][]api.Token
	begin, level := 0, 0
	for i, token := range tokens {
		switch token.Text {
		case "(":
			level++
		case ")":
			level--
		case word:
			if level == 0 {
				parts = append(parts, tokens[begin:i])
				begin = i + 1
			}
		}
	}
	return append(parts, tokens[begin:])
}

// each returns the results of a function.
func each[T, U any](list []T, f func(T) U) []U {
	var results []U
	for _, x := range list {
		results = append(results, f(x))
	}
	return results
}

// modelFormula returns the formula of the tokens of a condition.
func modelFormula(l []api.Token) api.Formula {
	signs := []string{"=", "!=", "<", "<=", ">", ">="}
	ors, ands := split(l, "or"), split(l, "and")
	switch {
	case len(ors) > 1:
		return or(each(ors, modelFormula)...)
	case len(ands) > 1:
		return and(each(ands, modelFormula)...)
	case l[0].Text == "not":
		return not(modelFormula(l[1:]))
	case l[0].Text == "(":
		return modelFormula(l[1 : len(l)-1])
	case len(l) == 3:
		return test(l[0].Text, 1+slices.Index(signs, l[1].Text), l[2].N)
	case l[0].Text == "true":
		return yes()
	case l[0].Text == "false":
		return no()
	}
	return term(l[0].Text)
}

// modelStart returns the condition of commencement of tokens.
func modelStart(l []api.Token) api.Start {
	ors, ands := split(l, "or"), split(l, "and")
	switch {
	case len(ors) > 1:
		return some(each(ors, modelStart)...)
	case len(ands) > 1:
		return all(each(ands, modelStart)...)
	case l[0].Text == "(":
		return modelStart(l[1 : len(l)-1])
	case len(l) == 1:
		return map[string]api.Start{"always": always(), "never": never()}[l[0].Text]
	case l[0].Text == "day":
		return day(l[1].N)
	}
	return map[string]func(string) api.Start{"order": order, "event": event, "begun": begun, "over": over}[l[0].Text](l[1].Text)
}

// sizeOfFormula returns the number of nodes, and the number of levels of them.
func sizeOfFormula(f api.Formula) (int, int) {
	return sizeOf(f, func(f api.Formula) []api.Formula { return f.Kids })
}

// sizeOfStart returns the number of nodes, and the number of levels of them.
func sizeOfStart(s api.Start) (int, int) {
	return sizeOf(s, func(s api.Start) []api.Start { return s.Kids })
}

// sizeOf goes through the nodes level by level.
func sizeOf[T any](root T, kids func(T) []T) (int, int) {
	size, depth := 0, 0
	for level := []T{root}; len(level) > 0; depth++ {
		size += len(level)
		var below []T
		for _, node := range level {
			below = append(below, kids(node)...)
		}
		level = below
	}
	return size, depth
}

// someGaps returns gaps of all kinds.
func someGaps() []string {
	return []string{" ", "\t", "\n", " \t \n\n", "#\n", "# act b: define x. !7x_\r\x00\xff\n", "\n# if\n\t#\n", " #.#;\n \t", "# ü 法\n"}
}

// writer makes up provisions and their texts.
type writer struct{ *rand.Rand }

func newWriter(seed uint64) writer { return writer{rand.New(rand.NewPCG(8, seed))} }

// of returns an element.
func of[T any](w writer, l ...T) T { return l[w.IntN(len(l))] }

// modelName says what names are.
var modelName = regexp.MustCompile(`\A[A-Za-z][A-Za-z0-9_]{0,23}\z`)

// name returns a NAME.
func (w writer) name() string {
	const letters = "ABCDEFGHIJKLMNOPQRSTUVWXYZabcdefghijklmnopqrstuvwxyz"
	const others = letters + "0123456789_"
	for {
		name := of(w, "a", "b", "poor", "income", "tax1", "Act", "IF", "iff", "o", "orders", "not_", "always1", "notwithstandin")
		if w.IntN(2) == 0 {
			name = letters[w.IntN(len(letters)):][:1]
			for range of(w, 0, 0, 1, 5, 22, 23) {
				name += others[w.IntN(len(others)):][:1]
			}
		}
		if !slices.Contains(keyWords(), name) {
			return name
		}
	}
}

// number returns a number within the limits.
func (w writer) number() int { return of(w, 0, 1, 2, 18, w.IntN(mostValue), 999999, mostValue) }

// formula returns a formula of at most a depth.
func (w writer) formula(depth int) api.Formula {
	kid := func() api.Formula { return w.formula(depth - 1) }
	switch n := w.IntN(10); {
	case depth > 1 && n < 2:
		return not(kid())
	case depth > 1 && n < 6:
		kids := []api.Formula{kid(), kid()}
		for range of(w, 0, 0, 0, 1, 2) {
			kids = append(kids, kid())
		}
		return of(w, and, or)(kids...)
	}
	return of(w, yes(), no(), term(w.name()), test(w.name(), 1+w.IntN(6), w.number()), test(w.name(), 1+w.IntN(6), w.number()))
}

// start returns a condition of commencement of at most a depth.
func (w writer) start(depth int) api.Start {
	kid := func() api.Start { return w.start(depth - 1) }
	if depth > 1 && w.IntN(2) == 0 {
		kids := []api.Start{kid(), kid()}
		for range of(w, 0, 0, 0, 1, 2) {
			kids = append(kids, kid())
		}
		return of(w, all, some)(kids...)
	}
	return of(w, always(), never(), day(w.number()), order(w.name()), event(w.name()), begun(w.name()), over(w.name()))
}

// names returns at most n different names.
func (w writer) names(n int) []string {
	var names []string
	for range n {
		if name := w.name(); !slices.Contains(names, name) {
			names = append(names, name)
		}
	}
	return names
}

// provision returns a provision with some of its parts.
func (w writer) provision() api.Provision {
	p := theTerm(1+w.IntN(4), w.name(), w.name())
	if w.IntN(2) == 0 {
		p = theRule(p.Rank, p.Id, p.Name, w.number())
	}
	if w.IntN(3) > 0 {
		p.When = w.formula(of(w, 1, 2, 3, 4))
	}
	if w.IntN(2) == 0 {
		p.Except = w.names(of(w, 1, 2, 3, 20))
	}
	for _, start := range []*api.Start{&p.Begin, &p.End, &p.Again} {
		if w.IntN(2) == 0 {
			*start = w.start(of(w, 1, 2, 3))
		}
	}
	return p
}

// digits returns the digits of a number, with zeros in front or without.
func (w writer) digits(n int) string {
	digits := strconv.Itoa(n)
	return strings.Repeat("0", w.IntN(3)*w.IntN(max(1, 8-len(digits)))/2) + digits
}

// tokens returns the tokens of a provision: a part with its default is there, or left out.
func (w writer) tokens(p api.Provision) []string {
	l := []string{map[int]string{1: "constitution", 2: "act", 3: "regulation", 4: "bylaw"}[p.Rank], p.Id, ":"}
	if p.Kind == api.ProvTerm {
		l = append(l, "define", p.Name)
	} else {
		l = append(l, "answer", p.Name, "is", w.digits(p.Value))
	}
	if p.When.Op != api.OpTrue || w.IntN(2) == 0 {
		l = append(append(l, "if"), w.formulaTokens(p.When, 0)...)
	}
	for i, name := range p.Except {
		l = append(l, []string{"notwithstanding", ","}[min(i, 1)], name)
	}
	if p.Begin.Op != api.StartAlways || w.IntN(2) == 0 {
		l = append(append(l, "from"), w.startTokens(p.Begin, 0)...)
	}
	if p.End.Op != api.StartNever || w.IntN(2) == 0 {
		l = append(append(l, "until"), w.startTokens(p.End, 0)...)
	}
	if p.Again.Op != api.StartNever || w.IntN(2) == 0 {
		l = append(append(l, "again"), w.startTokens(p.Again, 0)...)
	}
	return append(l, ".")
}

// Where a condition may stand without parentheses: joined is 0 for a whole one, 1 for a kid of `or`, 2 for a kid of `and`,
// 3 for the kid of `not`.

// wrapped returns tokens in parentheses if they need them, or just so.
func (w writer) wrapped(l []string, needed bool) []string {
	for needed || w.IntN(8) == 0 {
		l = slices.Concat([]string{"("}, l, []string{")"})
		needed = false
	}
	return l
}

// formulaTokens returns the tokens of a formula.
func (w writer) formulaTokens(f api.Formula, joined int) []string {
	kids := func(word string, joined int) []string {
		var l []string
		for i, kid := range f.Kids {
			if i > 0 {
				l = append(l, word)
			}
			l = append(l, w.formulaTokens(kid, joined)...)
		}
		return l
	}
	switch f.Op {
	case api.OpTrue:
		return w.wrapped([]string{"true"}, false)
	case api.OpFalse:
		return w.wrapped([]string{"false"}, false)
	case api.OpTerm:
		return w.wrapped([]string{f.Name}, false)
	case api.OpTest:
		return w.wrapped([]string{f.Name, []string{"", "=", "!=", "<", "<=", ">", ">="}[f.Cmp], w.digits(f.N)}, false)
	case api.OpNot:
		return w.wrapped(append([]string{"not"}, kids("", 3)...), false)
	case api.OpAnd:
		return w.wrapped(kids("and", 2), joined >= 2)
	}
	return w.wrapped(kids("or", 1), joined >= 1)
}

// startTokens returns the tokens of a condition of commencement.
func (w writer) startTokens(s api.Start, joined int) []string {
	kids := func(word string, joined int) []string {
		var l []string
		for i, kid := range s.Kids {
			if i > 0 {
				l = append(l, word)
			}
			l = append(l, w.startTokens(kid, joined)...)
		}
		return l
	}
	switch s.Op {
	case api.StartAlways:
		return w.wrapped([]string{"always"}, false)
	case api.StartNever:
		return w.wrapped([]string{"never"}, false)
	case api.StartDay:
		return w.wrapped([]string{"day", w.digits(s.Day)}, false)
	case api.StartAll:
		return w.wrapped(kids("and", 2), joined >= 2)
	case api.StartAny:
		return w.wrapped(kids("or", 1), joined >= 1)
	}
	return w.wrapped([]string{[]string{"order", "event", "begun", "over"}[s.Op-api.StartOrder], s.Name}, false)
}

// join returns a text with tokens and any gaps that may stand between them.
func (w writer) join(tokens []string) string {
	const word = "ABCDEFGHIJKLMNOPQRSTUVWXYZabcdefghijklmnopqrstuvwxyz0123456789_"
	text := of(w, "", of(w, someGaps()...))
	last := ";"
	for _, token := range tokens {
		needed := strings.Contains(word, last) && strings.Contains(word, token[:1]) || strings.Contains("!<>", last) && token[0] == '='
		if needed || w.IntN(2) == 0 {
			text += of(w, someGaps()...)
		}
		text += token
		last = token[len(token)-1:]
	}
	return text + of(w, "", "", "#", "# .", of(w, someGaps()...))
}

// otherTokens returns tokens of all kinds.
func otherTokens() []string {
	return append(keyWords(), "a", "x", "Act", "0", "18", "1000000", "1000001", "9999999", ":", ",", ".", "(", ")", "=", "!=", "<", "<=", ">", ">=", ";", "[", "]", "{", "}")
}

// spoil returns tokens with some mistakes.
func (w writer) spoil(tokens []string) []string {
	l := slices.Clone(tokens)
	for range of(w, 1, 1, 1, 2, 3) {
		i := w.IntN(len(l) + 1)
		j := w.IntN(len(l) + 1)
		switch w.IntN(7) {
		case 0:
			l = l[:i]
		case 1:
			l = slices.Insert(l, i, of(w, otherTokens()...))
		case 2:
			l = slices.Delete(l, i, min(i+1, len(l)))
		case 3:
			l = slices.Replace(l, i, min(i+1, len(l)), of(w, otherTokens()...))
		case 4:
			l = slices.Replace(l, i, min(i+1, len(l)), l[j:min(j+1, len(l))]...)
		case 5:
			l = w.replaceOne(l, isDigits, of(w, "1000001", "9999999"))
		default:
			if from := slices.Index(l, "notwithstanding") + 1; from > 0 && from < len(l) {
				l = w.replaceOne(l, modelName.MatchString, l[from])
			}
		}
	}
	return l
}

func isDigits(token string) bool { return token[0] >= '0' && token[0] <= '9' }

// replaceOne replaces one of the tokens for which a function reports true, if there are any.
func (w writer) replaceOne(tokens []string, is func(string) bool, by string) []string {
	var places []int
	for i, token := range tokens {
		if is(token) {
			places = append(places, i)
		}
	}
	if len(places) > 0 {
		tokens[of(w, places...)] = by
	}
	return tokens
}

// brief writes a text that may be long.
func brief(text string) string {
	if len(text) > 300 {
		return strconv.Itoa(len(text)) + " bytes " + strconv.Quote(text[:150]) + " .. " + strconv.Quote(text[len(text)-150:])
	}
	return strconv.Quote(text)
}

func (r result) String() string {
	if r.err == api.OK && r.at == 0 {
		return fmt.Sprintf("%+v", r.p)
	}
	return fmt.Sprintf("error %d at %d, %+v", r.err, r.at, r.p)
}
