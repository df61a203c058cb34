package fact

import (
	"fmt"
	"math/rand/v2"
	"regexp"
	"slices"
	"sort"
	"strconv"
	"strings"

	"pandect/api"
	"pandect/lexer"
)

// The models come to the same results in other ways than package fact: regular expressions say what names are, and which
// tokens are, or begin, a domain or a case; all errors of a text are collected, and the first one is chosen afterwards.

const mostFacts, mostValue = 60, 1000000

func aFlag(name string) api.Fact { return api.Fact{Name: name, Kind: api.FactFlag, Lo: 0, Hi: 1} }

func aNumber(name string, lo, hi int) api.Fact {
	return api.Fact{Name: name, Kind: api.FactNumber, Lo: lo, Hi: hi}
}

func aDay(name string, lo, hi int) api.Fact {
	return api.Fact{Name: name, Kind: api.FactDay, Lo: lo, Hi: hi}
}

func domainOf(facts ...api.Fact) api.Domain { return api.Domain{Facts: facts} }

// sameDomain reports whether two domains are equal.
func sameDomain(a, b api.Domain) bool { return slices.Equal(a.Facts, b.Facts) }

// domainResult is what Parse returns.
type domainResult struct {
	domain api.Domain
	err    api.Errno
	at     int
}

func parse(text string) domainResult {
	d, err, at := Parse(text)
	return domainResult{d, err, at}
}

func noDomain(err api.Errno, at int) domainResult { return domainResult{err: err, at: at} }

func (r domainResult) equal(other domainResult) bool {
	return sameDomain(r.domain, other.domain) && r.err == other.err && r.at == other.at
}

// caseResult is what ParseCase returns.
type caseResult struct {
	values api.Case
	err    api.Errno
	at     int
}

func parseCase(d api.Domain, text string) caseResult {
	c, err, at := ParseCase(d, text)
	return caseResult{c, err, at}
}

func noCase(err api.Errno, at int) caseResult { return caseResult{err: err, at: at} }

func (r caseResult) equal(other caseResult) bool {
	return slices.Equal(r.values, other.values) && r.err == other.err && r.at == other.at
}

var modelName = regexp.MustCompile(`\A[A-Za-z][A-Za-z0-9_]{0,23}\z`)

// modelValid returns what Valid should return.
func modelValid(d api.Domain) bool {
	names := map[string]bool{}
	for _, f := range d.Facts {
		names[f.Name] = true
		isFlag := f.Kind == api.FactFlag && f.Lo == 0 && f.Hi == 1
		isOther := (f.Kind == api.FactNumber || f.Kind == api.FactDay) && f.Lo >= 0 && f.Hi <= mostValue && f.Lo <= f.Hi
		if !modelName.MatchString(f.Name) || !isFlag && !isOther {
			return false
		}
	}
	return len(names) == len(d.Facts) && len(names) <= mostFacts
}

// modelFits returns what Fits should return.
func modelFits(d api.Domain, c api.Case) bool {
	if !modelValid(d) || len(c) != len(d.Facts) {
		return false
	}
	for i := range c {
		if c[i] < d.Facts[i].Lo || c[i] > d.Facts[i].Hi {
			return false
		}
	}
	return true
}

// modelText returns what Text should return.
func modelText(d api.Domain) string {
	if !modelValid(d) {
		return ""
	}
	text := ""
	for _, f := range d.Facts {
		if f.Kind == api.FactFlag {
			text += fmt.Sprintf("%s flag;\n", f.Name)
		} else {
			text += fmt.Sprintf("%s %s %d to %d;\n", f.Name, map[int]string{api.FactNumber: "number", api.FactDay: "day"}[f.Kind], f.Lo, f.Hi)
		}
	}
	return text
}

// modelCaseText returns what CaseText should return.
func modelCaseText(d api.Domain, c api.Case) string {
	if !modelFits(d, c) {
		return ""
	}
	text := ""
	for i, n := range c {
		text += fmt.Sprintf(", %s = %d", d.Facts[i].Name, n)
	}
	return strings.TrimPrefix(text, ", ")
}

// modelCases returns all cases that fit a valid domain, in order.
func modelCases(d api.Domain) []api.Case {
	all := []api.Case{{}}
	for _, f := range d.Facts {
		var longer []api.Case
		for _, c := range all {
			for n := f.Lo; n <= f.Hi; n++ {
				longer = append(longer, append(slices.Clone(c), n))
			}
		}
		all = longer
	}
	return all
}

// language says which lists of tokens are texts: each token is a letter, and each beginning of a text becomes a text
// with one of some endings.
type language struct {
	words   map[string]byte // of tokens that stand for themselves
	name    byte            // of other names
	texts   *regexp.Regexp
	endings []string
	known   map[string]bool // whether shapes are texts
}

func newDomains() *language {
	return &language{
		words: map[string]byte{"flag": 'f', "number": 'u', "day": 'd', "to": 't', ";": ';'}, name: 'n',
		texts:   regexp.MustCompile(`\A(?:[nfudt](?:f|[ud]iti);)*\z`),
		endings: []string{"", ";", "f;", "i;", "ti;", "iti;"}, known: map[string]bool{},
	}
}

func newCases() *language {
	return &language{
		words: map[string]byte{"=": '=', ",": ','}, name: 'n',
		texts:   regexp.MustCompile(`\A(?:n=i(?:,n=i)*)?\z`),
		endings: []string{"", "i", "=i", "n=i"}, known: map[string]bool{},
	}
}

// shape returns a letter for each token.
func (l *language) shape(tokens []api.Token) string {
	shape := make([]byte, len(tokens))
	for i, token := range tokens {
		switch word := l.words[token.Text]; {
		case word != 0:
			shape[i] = word
		case token.Kind == api.TokName:
			shape[i] = l.name
		case token.Kind == api.TokNumber:
			shape[i] = 'i'
		default:
			shape[i] = '?'
		}
	}
	return string(shape)
}

// whole reports whether a shape is that of a text.
func (l *language) whole(shape string) bool {
	is, known := l.known[shape]
	if !known {
		is = l.texts.MatchString(shape)
		if len(shape) < 100 {
			l.known[shape] = is
		}
	}
	return is
}

// begins reports whether a shape is that of a beginning of a text.
func (l *language) begins(shape string) bool {
	return slices.ContainsFunc(l.endings, func(e string) bool { return l.whole(shape + e) })
}

// finding is an error of a text at an offset.
type finding struct {
	err api.Errno
	at  int
}

// syntax returns the number of tokens that begin a text, and the errors of syntax.
func (l *language) syntax(tokens []api.Token, length int) (int, []finding) {
	shape := l.shape(tokens)
	good := sort.Search(len(shape), func(i int) bool { return !l.begins(shape[:i+1]) })
	switch {
	case good < len(tokens):
		return good, []finding{{api.ErrSyntax, tokens[good].At}}
	case !l.whole(shape):
		return good, []finding{{api.ErrEnd, length}}
	}
	return good, nil
}

// first returns the leftmost error, of several ones at one offset the one that is named first.
func first(found []finding, named ...api.Errno) finding {
	best := found[0]
	for _, f := range found[1:] {
		if f.at < best.at || f.at == best.at && slices.Index(named, f.err) < slices.Index(named, best.err) {
			best = f
		}
	}
	return best
}

// modelParser has the languages with the shapes that are known already.
type modelParser struct{ domains, cases *language }

func newModelParser() modelParser { return modelParser{newDomains(), newCases()} }

// parse returns what Parse should return.
func (m modelParser) parse(text string) domainResult {
	tokens, err, at := lexer.Lex(text)
	if err != api.OK {
		return noDomain(err, at)
	}
	good, found := m.domains.syntax(tokens, len(text))
	var d api.Domain
	names := map[string]bool{}
	begin := 0 // of a fact
	for i, token := range tokens[:good] {
		switch i - begin {
		case 0:
			if names[token.Text] {
				found = append(found, finding{api.ErrTwice, token.At})
			}
			if len(d.Facts) >= mostFacts {
				found = append(found, finding{api.ErrLimit, token.At})
			}
			names[token.Text] = true
		case 2, 4:
			if token.Kind == api.TokNumber && (token.N > mostValue || i-begin == 4 && token.N < tokens[i-2].N) {
				found = append(found, finding{api.ErrRange, token.At})
			}
		}
		if token.Text == ";" {
			d.Facts = append(d.Facts, modelFact(tokens[begin:i]))
			begin = i + 1
		}
	}
	if len(found) > 0 {
		f := first(found, api.ErrSyntax, api.ErrTwice, api.ErrLimit, api.ErrRange, api.ErrEnd)
		return noDomain(f.err, f.at)
	}
	return domainResult{domain: d}
}

// modelFact returns the fact of the tokens before a semicolon.
func modelFact(tokens []api.Token) api.Fact {
	name := tokens[0].Text
	switch {
	case len(tokens) == 2:
		return aFlag(name)
	case tokens[1].Text == "number":
		return aNumber(name, tokens[2].N, tokens[4].N)
	}
	return aDay(name, tokens[2].N, tokens[4].N)
}

// parseCase returns what ParseCase should return.
func (m modelParser) parseCase(d api.Domain, text string) caseResult {
	if !modelValid(d) {
		return noCase(api.ErrArg, 0)
	}
	tokens, err, at := lexer.Lex(text)
	if err != api.OK {
		return noCase(err, at)
	}
	facts := map[string]api.Fact{}
	for _, f := range d.Facts {
		facts[f.Name] = f
	}
	good, found := m.cases.syntax(tokens, len(text))
	values := map[string]int{}
	name := ""
	for i, token := range tokens[:good] {
		switch fact, known := facts[token.Text]; {
		case i%4 == 0 && !known:
			found = append(found, finding{api.ErrName, token.At})
		case i%4 == 0:
			if _, twice := values[token.Text]; twice {
				found = append(found, finding{api.ErrTwice, token.At})
			}
			name = fact.Name
			values[name] = -1
		case i%4 == 2:
			if token.N < facts[name].Lo || token.N > facts[name].Hi {
				found = append(found, finding{api.ErrRange, token.At})
			}
			values[name] = token.N
		}
	}
	var c api.Case
	for _, f := range d.Facts {
		value, known := values[f.Name]
		if !known {
			found = append(found, finding{api.ErrNone, len(text)})
		}
		c = append(c, value)
	}
	if len(found) > 0 {
		f := first(found, api.ErrSyntax, api.ErrName, api.ErrTwice, api.ErrRange, api.ErrEnd, api.ErrNone)
		return noCase(f.err, f.at)
	}
	return caseResult{values: c}
}

// languageWords returns the words of the language of domains.
func languageWords() []string { return []string{"flag", "number", "day", "to"} }

// someGaps returns gaps of all kinds.
func someGaps() []string {
	return []string{" ", "\t", "\n", " \t \n\n", "#\n", "# flag; a = 1, !7x_\r\x00\xff\n", "\n# a\n\t#\n", " #;#;\n \t", "# ü 法\n"}
}

// writer makes up domains, cases and their texts.
type writer struct{ *rand.Rand }

func newWriter(seed uint64) writer { return writer{rand.New(rand.NewPCG(6, seed))} }

// of returns an element.
func of[T any](w writer, l ...T) T { return l[w.IntN(len(l))] }

// name returns a name.
func (w writer) name() string {
	const letters = "ABCDEFGHIJKLMNOPQRSTUVWXYZabcdefghijklmnopqrstuvwxyz"
	const others = letters + "0123456789_"
	if w.IntN(4) == 0 {
		return of(w, languageWords()...)
	}
	name := letters[w.IntN(len(letters)):][:1]
	for range of(w, 0, 0, 1, 5, 22, 23) {
		name += others[w.IntN(len(others)):][:1]
	}
	return name
}

// bound returns a number that may be a bound.
func (w writer) bound() int {
	return of(w, 0, 0, 1, 1, 2, 3, w.IntN(200), w.IntN(mostValue), 999999, mostValue, mostValue)
}

// fact returns a fact with a name.
func (w writer) fact(name string) api.Fact {
	if w.IntN(3) == 0 {
		return aFlag(name)
	}
	lo, hi := w.bound(), w.bound()
	return of(w, aNumber, aDay)(name, min(lo, hi), max(lo, hi))
}

// domain returns a valid domain with n facts.
func (w writer) domain(n int) api.Domain {
	names := map[string]bool{}
	var d api.Domain
	for len(d.Facts) < n {
		name := w.name()
		if !names[name] {
			names[name] = true
			d.Facts = append(d.Facts, w.fact(name))
		}
	}
	return d
}

// smallDomain returns a valid domain with few cases.
func (w writer) smallDomain() api.Domain {
	d := w.domain(w.IntN(6))
	for i, f := range d.Facts {
		if f.Kind != api.FactFlag {
			lo := min(w.bound(), mostValue-4)
			d.Facts[i].Lo, d.Facts[i].Hi = lo, lo+w.IntN(5)
		}
	}
	return d
}

// values returns a case that fits a valid domain.
func (w writer) values(d api.Domain) api.Case {
	c := api.Case{}
	for _, f := range d.Facts {
		c = append(c, of(w, f.Lo, f.Hi, f.Lo+w.IntN(f.Hi-f.Lo+1)))
	}
	return c
}

// wrongFact returns a fact that is nearly as it should be.
func (w writer) wrongFact(f api.Fact) api.Fact {
	const most = int(^uint(0) >> 1)
	switch w.IntN(4) {
	case 0:
		f.Name = of(w, "", "_", "7", "a b", " a", "a ", "a;", "ä", "a\xff", "a-b", f.Name+";", strings.Repeat("a", 24), strings.Repeat("a", 25), "a#")
	case 1:
		f.Kind = of(w, -1, 0, 1, 2, 3, 4, most, -most-1)
	case 2:
		f.Lo = of(w, f.Lo-1, f.Lo+1, f.Hi, f.Hi+1, -1, 0, 1, mostValue, mostValue+1, most, -most-1)
	default:
		f.Hi = of(w, f.Hi-1, f.Hi+1, f.Lo, f.Lo-1, -1, 0, 1, mostValue, mostValue+1, most, -most-1)
	}
	return f
}

// anyDomain returns a domain that is valid, or not.
func (w writer) anyDomain() api.Domain {
	d := w.domain(of(w, 0, 1, 2, 3, 5, 20, 59, 60, 61))
	if len(d.Facts) == 0 {
		return d
	}
	i := w.IntN(len(d.Facts))
	switch w.IntN(3) {
	case 0:
		d.Facts[i] = w.wrongFact(d.Facts[i])
	case 1:
		d.Facts[i].Name = d.Facts[w.IntN(len(d.Facts))].Name
	}
	return d
}

// number returns the digits of a number, with zeros in front or without.
func (w writer) number(n int) string {
	digits := strconv.Itoa(n)
	return strings.Repeat("0", w.IntN(max(1, 8-len(digits)))) + digits
}

// domainTokens returns the tokens of a domain.
func (w writer) domainTokens(d api.Domain) []string {
	var l []string
	for _, f := range d.Facts {
		switch f.Kind {
		case api.FactFlag:
			l = append(l, f.Name, "flag", ";")
		case api.FactNumber:
			l = append(l, f.Name, "number", w.number(f.Lo), "to", w.number(f.Hi), ";")
		default:
			l = append(l, f.Name, "day", w.number(f.Lo), "to", w.number(f.Hi), ";")
		}
	}
	return l
}

// caseTokens returns the tokens of the values of a case, in an order.
func (w writer) caseTokens(d api.Domain, c api.Case, order []int) []string {
	var l []string
	for _, i := range order {
		if len(l) > 0 {
			l = append(l, ",")
		}
		l = append(l, d.Facts[i].Name, "=", w.number(c[i]))
	}
	return l
}

// join returns a text with tokens and any gaps that may stand between them.
func (w writer) join(tokens []string) string {
	const word = "ABCDEFGHIJKLMNOPQRSTUVWXYZabcdefghijklmnopqrstuvwxyz0123456789_"
	text := of(w, "", of(w, someGaps()...))
	last := ";"
	for _, token := range tokens {
		needed := strings.Contains(word, last) && strings.Contains(word, token[:1]) || strings.Contains("!<>", last) && token[0] == '='
		if needed || w.IntN(2) == 0 {
			text += of(w, someGaps()...)
		}
		text += token
		last = token[len(token)-1:]
	}
	return text + of(w, "", "", "#", "# a;", of(w, someGaps()...))
}

// spoil returns tokens with some mistakes.
func (w writer) spoil(tokens []string) []string {
	others := append(languageWords(), ";", ",", "=", "!=", ".", "(", "0", "1", "999999", "1000000", "1000001", "9999999", "a", "x", "!", "7x", "12345678")
	l := slices.Clone(tokens)
	for range 1 + w.IntN(3) {
		i := w.IntN(len(l) + 1)
		switch w.IntN(5) {
		case 0:
			l = l[:i]
		case 1:
			l = slices.Insert(l, i, of(w, others...))
		default:
			if i == len(l) {
				continue
			}
			switch w.IntN(3) {
			case 0:
				l = slices.Delete(l, i, i+1)
			case 1:
				l[i] = of(w, others...)
			default:
				j := w.IntN(len(l))
				l[i] = l[j]
			}
		}
	}
	return l
}

// shortTexts returns all texts of at most most tokens.
func shortTexts(most int, tokens ...string) []string {
	all, last := []string{""}, []string{""}
	for range most {
		var longer []string
		for _, text := range last {
			for _, token := range tokens {
				longer = append(longer, strings.TrimPrefix(text+" "+token, " "))
			}
		}
		all, last = append(all, longer...), longer
	}
	return all
}
