package fact

import (
	"pandect/api"
	"pandect/lexer"
)

// Parse returns the domain of a text, or an error and its offset.
func Parse(text string) (api.Domain, api.Errno, int) {
	return parsed(func() api.Domain { return newReader(text).domain() })
}

// ParseCase returns the case of a text, or an error and its offset.
func ParseCase(d api.Domain, text string) (api.Case, api.Errno, int) {
	if !Valid(d) {
		return nil, api.ErrArg, 0
	}
	return parsed(func() api.Case { return newReader(text).values(d) })
}

// failure is what ends the reading of a text: an error and its offset.
type failure struct {
	err api.Errno
	at  int
}

// parsed returns what a function reads, or the failure that it panics with.
func parsed[T any](read func() T) (result T, err api.Errno, at int) {
	defer func() {
		if f, ok := recover().(failure); ok {
			err, at = f.err, f.at
		}
	}()
	return read(), api.OK, 0
}

// require panics with a failure if something is not as it must be.
func require(ok bool, err api.Errno, at int) {
	if !ok {
		panic(failure{err, at})
	}
}

// reader takes the tokens of a text from left to right. Its methods panic with a failure at the first error.
type reader struct {
	tokens []api.Token // those that are left
	end    int         // the length of the text
}

func newReader(text string) *reader {
	tokens, err, at := lexer.Lex(text)
	require(err == api.OK, err, at)
	return &reader{tokens: tokens, end: len(text)}
}

// more reports whether tokens are left.
func (r *reader) more() bool { return len(r.tokens) > 0 }

// next takes a token.
func (r *reader) next() api.Token {
	require(r.more(), api.ErrEnd, r.end)
	token := r.tokens[0]
	r.tokens = r.tokens[1:]
	return token
}

// take takes a token of a kind.
func (r *reader) take(kind int) api.Token {
	token := r.next()
	require(token.Kind == kind, api.ErrSyntax, token.At)
	return token
}

// word takes a word or a symbol that stands for itself.
func (r *reader) word(text string) {
	token := r.next()
	require(token.Text == text, api.ErrSyntax, token.At)
}

// domain takes a domain.
func (r *reader) domain() api.Domain {
	kinds := map[string]func(string) api.Fact{flagWord: r.flag, numberWord: r.number, dayWord: r.day}
	var d api.Domain
	for r.more() {
		name := r.take(api.TokName)
		require(Index(d, name.Text) < 0, api.ErrTwice, name.At)
		require(len(d.Facts) < api.MaxMoreFacts, api.ErrLimit, name.At)
		kind := r.next()
		read, known := kinds[kind.Text]
		require(known, api.ErrSyntax, kind.At)
		d.Facts = append(d.Facts, read(name.Text))
		r.word(";")
	}
	return d
}

// flag returns a flag, after whose kind nothing stands.
func (r *reader) flag(name string) api.Fact {
	return api.Fact{Name: name, Kind: api.FactFlag, Lo: 0, Hi: 1}
}

// number takes what stands after the kind of a number.
func (r *reader) number(name string) api.Fact { return r.bounds(name, api.FactNumber) }

// day takes what stands after the kind of a day.
func (r *reader) day(name string) api.Fact { return r.bounds(name, api.FactDay) }

// bounds takes the bounds of a fact.
func (r *reader) bounds(name string, kind int) api.Fact {
	lo := r.take(api.TokNumber)
	require(lo.N <= api.MaxValue, api.ErrRange, lo.At)
	r.word(toWord)
	hi := r.take(api.TokNumber)
	require(lo.N <= hi.N && hi.N <= api.MaxValue, api.ErrRange, hi.At)
	return api.Fact{Name: name, Kind: kind, Lo: lo.N, Hi: hi.N}
}

// values takes a case of a valid domain.
func (r *reader) values(d api.Domain) api.Case {
	given := map[string]int{}
	if r.more() {
		r.value(d, given)
	}
	for r.more() {
		r.word(",")
		r.value(d, given)
	}
	c := make(api.Case, len(d.Facts))
	for i, f := range d.Facts {
		value, known := given[f.Name]
		require(known, api.ErrNone, r.end)
		c[i] = value
	}
	return c
}

// value takes the value of a fact of a domain, and adds it to those that are given.
func (r *reader) value(d api.Domain, given map[string]int) {
	name := r.take(api.TokName)
	i := Index(d, name.Text)
	require(i >= 0, api.ErrName, name.At)
	_, twice := given[name.Text]
	require(!twice, api.ErrTwice, name.At)
	r.word("=")
	number := r.take(api.TokNumber)
	require(isValue(number.N, d.Facts[i]), api.ErrRange, number.At)
	given[name.Text] = number.N
}
