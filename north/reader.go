package north

import (
	"pandect/api"
	"pandect/lexer"
)

// failure is what ends the reading of a text: an error and its offset.
type failure struct {
	err api.Errno
	at  int
}

// require panics with a failure if something is not as it must be.
func require(ok bool, err api.Errno, at int) {
	if !ok {
		panic(failure{err, at})
	}
}

// reader takes the tokens of a text in order. Its methods panic with a failure at the first error.
type reader struct {
	tokens []api.Token // those that are left
	end    int         // the length of the text
}

func newReader(text string) *reader {
	tokens, err, at := lexer.Lex(text)
	require(err == api.OK, err, at)
	return &reader{tokens: tokens, end: len(text)}
}

// ahead returns the token that comes next. At the end of the text, that is one without a text.
func (r *reader) ahead() api.Token {
	if len(r.tokens) == 0 {
		return api.Token{At: r.end}
	}
	return r.tokens[0]
}

// take takes the token that comes next.
func (r *reader) take() api.Token {
	token := r.ahead()
	require(len(r.tokens) > 0, api.ErrEnd, token.At)
	r.tokens = r.tokens[1:]
	return token
}

// takeIf takes a word or a symbol if it comes next, and reports whether it did.
func (r *reader) takeIf(text string) bool {
	if r.ahead().Text != text {
		return false
	}
	r.take()
	return true
}

// word takes a word or a symbol that stands for itself.
func (r *reader) word(text string) {
	token := r.take()
	require(token.Text == text, api.ErrSyntax, token.At)
}

// name takes a NAME.
func (r *reader) name() string {
	token := r.take()
	require(isName(token), api.ErrSyntax, token.At)
	return token.Text
}

// number takes an INT. Values and days have the same limit.
func (r *reader) number() int {
	token := r.take()
	require(token.Kind == api.TokNumber, api.ErrSyntax, token.At)
	require(token.N <= api.MaxValue, api.ErrRange, token.At)
	return token.N
}

// isName reports whether a token is a NAME.
func isName(token api.Token) bool { return token.Kind == api.TokName && !isKeyWord(token.Text) }

// isKeyWord reports whether a name is a key word.
func isKeyWord(name string) bool {
	switch name {
	case "constitution", "act", "regulation", "bylaw", "define", "answer", "is", "if", "notwithstanding", "from", "until",
		"again", "or", "and", "not", "true", "false", "always", "never", "day", "order", "event", "begun", "over":
		return true
	}
	return false
}
