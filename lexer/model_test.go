package lexer

import (
	"math/rand/v2"
	"regexp"
	"slices"
	"strconv"
	"strings"

	"pandect/api"
)

// The model comes to the same tokens in another way than package lexer: regular expressions say what gaps are, and what
// should be a token is taken whole before it is asked whether it is one.

const (
	mostBytes  = 20000
	mostTokens = 5000
)

var (
	modelGap    = regexp.MustCompile(`^(?:[ \t\n]|#[^\n]*)*`)
	modelWord   = regexp.MustCompile(`^(?:[A-Za-z][A-Za-z0-9_]*|[0-9]+[A-Za-z_]?|[!<>]=|[;,.:()\[\]{}=<>])`)
	modelName   = regexp.MustCompile(`^[A-Za-z].*$`)
	modelNumber = regexp.MustCompile(`^[0-9].*$`)
	goodNumber  = regexp.MustCompile(`^[0-9]{1,7}$`)
)

// result is what Lex returns.
type result struct {
	tokens []api.Token
	err    api.Errno
	at     int
}

func lex(text string) result {
	tokens, err, at := Lex(text)
	return result{tokens, err, at}
}

func failed(err api.Errno, at int) result { return result{err: err, at: at} }

func (r result) equal(other result) bool {
	return slices.Equal(r.tokens, other.tokens) && r.err == other.err && r.at == other.at
}

// modelLex returns what Lex should return.
func modelLex(text string) result {
	if len(text) > mostBytes {
		return failed(api.ErrLimit, -1)
	}
	var tokens []api.Token
	for at := 0; ; {
		at += len(modelGap.FindString(text[at:]))
		if at == len(text) {
			return result{tokens: tokens}
		}
		token, err := modelToken(modelWord.FindString(text[at:]))
		if err == api.OK && len(tokens) == mostTokens {
			err = api.ErrLimit
		}
		if err != api.OK {
			return failed(err, at)
		}
		token.At = at
		tokens = append(tokens, token)
		at += len(token.Text)
	}
}

// modelToken returns the token that a word is, without its place.
func modelToken(word string) (api.Token, api.Errno) {
	switch {
	case word == "":
		return api.Token{}, api.ErrChar
	case modelName.MatchString(word) && len(word) > 24:
		return api.Token{}, api.ErrLimit
	case modelName.MatchString(word):
		return api.Token{Kind: api.TokName, Text: word}, api.OK
	case goodNumber.MatchString(word):
		n, _ := strconv.Atoi(word)
		return api.Token{Kind: api.TokNumber, Text: word, N: n}, api.OK
	case modelNumber.MatchString(word):
		return api.Token{}, api.ErrNumber
	}
	return api.Token{Kind: api.TokSymbol, Text: word}, api.OK
}

// onlyGaps reports whether there is nothing in a text but gaps: each line is empty without its comment.
func onlyGaps(text string) bool {
	for line := range strings.SplitSeq(text, "\n") {
		before, _, _ := strings.Cut(line, "#")
		if strings.Trim(before, " \t") != "" {
			return false
		}
	}
	return true
}

// symbols returns all symbols.
func symbols() []string {
	return append(strings.Split(";,.:()[]{}=<>", ""), "!=", "<=", ">=")
}

// someGaps returns gaps of all kinds, each of which may stand anywhere between tokens.
func someGaps() []string {
	return []string{" ", "\t", "\n", " \t \n\n", "#\n", "##\n", "# a !7x_\r\x00\xff\n", "\n# a\n\t#\n", " #;#;\n \t", "# ü 法\n"}
}

// edges returns texts that the chapter names, and others that are nearly like them.
func edges() []string {
	name24, name25 := "a23456789_123456789_1234", "a23456789_123456789_12345"
	l := []string{
		"", " ", "\t", "\n", " \t\n", "#", "#\n", "# ", "##", "# a", "# a\n", "#\n#", "#\n#\n", "a#", "a#\n", "a#b\nc", "#a\nb", "7#", ";#;\n;", "<#\n=", "a\n#", "!#=",
		"a", "Z", "a_", "a__7", "A1b2", "_", "_a", "_7", "__", "a _", "a _b", ";_", "_ a",
		name24, name25, name25 + "_", name24 + " " + name24, name24 + "." + name25, "\n" + name25, name24 + "#", "a " + name25 + " b",
		strings.Repeat("x", 24), strings.Repeat("x", 25), "x" + strings.Repeat("7", 23), "x" + strings.Repeat("7", 24), "x" + strings.Repeat("_", 23), "x" + strings.Repeat("_", 24),
		"0", "7", "00", "0000000", "0000007", "00000000", "00000007", "1234567", "12345678", "9999999", "10000000", "123456789012345678901234567890",
		"7x", "7_", "7;", "7 x", "7 _", "7#x", "7!", "7!=", "7=", "7.7", "7:7", "1234567x", "1234567_", "1234567;", "12345678x", "12345678_", "12345678;", "0x7", "0_0", "7e7", "x7", "x 7x",
		"!", "!=", "! =", "!!", "!!=", "!==", "!<", "!>=", "=!", "=!=", "a!", "a !b", "a!=b", "a! =b", "a!", "a!\n=", "<!", "<!=",
		"<", ">", "=", "<=", ">=", "==", "===", "=<", "=>", "<>", "><", "<>=", "><=", "<=>", ">=<=", "<<=", "<==", ">==", "< =", "> =", "<\n=", "<=7", "<a", "=a=",
		";,.:()[]{}=<>!=<=>=", "((a))", "a.b,c:d;e", "[1]{2}", "a=1;b<2", "row a1 at 7>=x# y",
		"\r", "a\rb", "a\r\n", "#\r\n", "\x00", "a\x00", "#\x00\n7", "ä", "aä", "#ä\na", "\xff", "7\x80", "\x80x", "\u00a0", "a\u00a0b", "\ufeffa", "\u2028", "\v", "\f", "\x7f",
		"+", "-7", "*", "/", "\\", "\"a\"", "'a'", "`a`", "$a", "a@b", "a?", "a&b", "a|b", "%", "^", "~",
		"7x !", "! 7x", "12345678 !", "! " + name25, name25 + " !", "7x " + name25, name25 + " 7x", "a ! 7x " + name25, "_ 7x", "7x _", "a;7x", "a;b!", "a\n\n  !", "a # !\n 7x",
	}
	for b := range 256 {
		l = append(l, string([]byte{byte(b)}))
	}
	return l
}

// shortTexts returns all texts of at most most bytes of which each kind has something to do with others.
func shortTexts(most int) []string {
	bytes := []string{"a", "7", "_", " ", "\n", "#", "!", "=", "<", ";", "\x80"}
	all, last := []string{""}, []string{""}
	for range most {
		var longer []string
		for _, text := range last {
			for _, b := range bytes {
				longer = append(longer, text+b)
			}
		}
		all, last = append(all, longer...), longer
	}
	return all
}

// writer makes up texts.
type writer struct{ *rand.Rand }

func newWriter(seed uint64) writer { return writer{rand.New(rand.NewPCG(5, seed))} }

// of returns an element.
func (w writer) of(l ...string) string { return l[w.IntN(len(l))] }

// name returns a name of at most 24 bytes.
func (w writer) name() string {
	const letters = "ABCDEFGHIJKLMNOPQRSTUVWXYZabcdefghijklmnopqrstuvwxyz"
	const others = letters + "0123456789_"
	name := []byte{letters[w.IntN(len(letters))]}
	for range min(w.IntN(30), 23) {
		name = append(name, others[w.IntN(len(others))])
	}
	return string(name)
}

// number returns a number, with zeros in front or without.
func (w writer) number() string {
	digits := strconv.Itoa(w.IntN(10000000))
	digits = digits[:1+w.IntN(len(digits))]
	return strings.Repeat("0", w.IntN(8-len(digits))) + digits
}

// token returns the text of a token.
func (w writer) token() string {
	return w.of(w.name(), w.number(), w.of(symbols()...))
}

// gap returns a gap, or none.
func (w writer) gap() string {
	return w.of("", "", " ", w.of(someGaps()...))
}

// mistake returns what is no token.
func (w writer) mistake() string {
	return w.of("!", "_", "_a", "!a", "7x", "7_", "12345678", "00000000", w.name()+strings.Repeat("_", 24), w.number()+w.name(), "\r", "\x00", "\x80", "ä", "-", "\"")
}

// good returns a text without an error, with n tokens.
func (w writer) good(n int) string {
	var b strings.Builder
	last := ""
	for range n {
		b.WriteString(w.gap())
		token := w.token()
		if wouldJoin(last, token) {
			b.WriteString(w.of(someGaps()...))
		}
		b.WriteString(token)
		last = token[len(token)-1:]
	}
	b.WriteString(w.gap())
	b.WriteString(w.of("", "", "#", "# a"))
	return b.String()
}

// wouldJoin reports whether a token would not be one of its own directly after a last byte.
func wouldJoin(last, token string) bool {
	const word = "ABCDEFGHIJKLMNOPQRSTUVWXYZabcdefghijklmnopqrstuvwxyz0123456789_"
	if last == "" {
		return false
	}
	return strings.Contains(word, last) && strings.Contains(word, token[:1]) || strings.Contains("<>", last) && token == "="
}

// any returns a text, with mistakes or without.
func (w writer) any() string {
	if w.IntN(2) == 0 {
		return w.good(w.IntN(12))
	}
	text := w.good(w.IntN(6))
	for range 1 + w.IntN(3) {
		text += w.gap() + w.mistake() + w.gap() + w.good(w.IntN(4))
	}
	return text
}

// texts returns texts of all kinds.
func texts() []string {
	l := append(edges(), shortTexts(4)...)
	w := newWriter(1)
	for range 4000 {
		l = append(l, w.any())
	}
	return append(l, longTexts()...)
}

// longTexts returns texts near the limits.
func longTexts() []string {
	w := newWriter(2)
	l := []string{
		strings.Repeat(" ", 20000), strings.Repeat(" ", 20001),
		strings.Repeat("#", 20000), strings.Repeat("#", 20001),
		strings.Repeat("#\n", 10000), strings.Repeat("# ;\n", 5000) + "#",
		strings.Repeat("a", 20000), strings.Repeat("a", 20001),
		strings.Repeat("0", 20000), strings.Repeat("0", 20001),
		strings.Repeat("!", 20000), strings.Repeat("!", 20001),
		strings.Repeat("\x80", 20000), strings.Repeat("\x80", 20001),
		strings.Repeat(" ", 19999) + ";", strings.Repeat(" ", 19999) + "!", strings.Repeat(" ", 20000) + "!", strings.Repeat(" ", 20000) + ";",
		strings.Repeat("a24_bytes_of_a_name_123;", 800), strings.Repeat("a ", 5000), strings.Repeat("abc ", 5000), strings.Repeat("abc ", 4999) + "abcd",
	}
	for _, n := range []int{4999, 5000, 5001, 5002} {
		for _, one := range []string{";", "a ", "7\n", "<=", "!=", "=<", "a;"} {
			l = append(l, strings.Repeat(one, n))
		}
		for _, more := range []string{";", " ", "# ;", "!", "7x", "_", "12345678", strings.Repeat("x", 25), "; !", " 7x ;"} {
			l = append(l, strings.Repeat("<", n)+more, strings.Repeat("a ", n)+more)
		}
	}
	for range 10 {
		l = append(l, w.good(600), w.good(700), w.good(2500))
	}
	return l
}
