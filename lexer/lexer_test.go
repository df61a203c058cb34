package lexer

import (
	"fmt"
	"slices"
	"strconv"
	"strings"
	"sync"
	"testing"

	"pandect/api"
)

func aName(text string, at int) api.Token { return api.Token{Kind: api.TokName, Text: text, At: at} }

func aNumber(text string, n, at int) api.Token {
	return api.Token{Kind: api.TokNumber, Text: text, N: n, At: at}
}

func aSymbol(text string, at int) api.Token {
	return api.Token{Kind: api.TokSymbol, Text: text, At: at}
}

// short writes a text that may be long.
func short(text string) string {
	if len(text) > 60 {
		return fmt.Sprintf("%d bytes %.60q", len(text), text)
	}
	return strconv.Quote(text)
}

// lexed returns the tokens of a text that has no error.
func lexed(t *testing.T, text string) []api.Token {
	t.Helper()
	r := lex(text)
	if r.err != api.OK || r.at != 0 {
		t.Fatalf("%s: error %d at %d", short(text), r.err, r.at)
	}
	return r.tokens
}

// beginning returns the part of a text before its error, and all of a text without an error.
func beginning(text string) string {
	r := lex(text)
	if r.err == api.OK {
		return text
	}
	return text[:max(r.at, 0)]
}

// shifted returns tokens at other places.
func shifted(tokens []api.Token, by int) []api.Token {
	l := slices.Clone(tokens)
	for i := range l {
		l[i].At += by
	}
	return l
}

// unplaced returns tokens without their places.
func unplaced(tokens []api.Token) []api.Token {
	l := slices.Clone(tokens)
	for i := range l {
		l[i].At = 0
	}
	return l
}

// P5.1: the examples of the chapter.
func TestExamples(t *testing.T) {
	for text, want := range map[string]result{
		"row a1 at 7>=x# y": {tokens: []api.Token{
			aName("row", 0), aName("a1", 4), aName("at", 7), aNumber("7", 7, 10), aSymbol(">=", 11), aName("x", 13),
		}},
		"a !b":                         failed(api.ErrChar, 2),
		"7x":                           failed(api.ErrNumber, 0),
		"12345678":                     failed(api.ErrNumber, 0),
		"\n" + strings.Repeat("n", 25): failed(api.ErrLimit, 1),
	} {
		if got := lex(text); !got.equal(want) {
			t.Errorf("%q: %v instead of %v", text, got, want)
		}
	}
}

// P5.1: texts with all kinds of tokens, and their tokens.
func TestTokens(t *testing.T) {
	for text, want := range map[string][]api.Token{
		"":                           nil,
		" \t\n":                      nil,
		"#":                          nil,
		"#\n":                        nil,
		"# a 7 ;":                    nil,
		"# a !\n\t# 7x\n":            nil,
		"a":                          {aName("a", 0)},
		"#a\nb":                      {aName("b", 3)},
		"a#b\nc#":                    {aName("a", 0), aName("c", 4)},
		"a##b\n\n#\nc":               {aName("a", 0), aName("c", 8)},
		"A_1z":                       {aName("A_1z", 0)},
		"z__ Z9":                     {aName("z__", 0), aName("Z9", 4)},
		"a23456789_123456789_1234 b": {aName("a23456789_123456789_1234", 0), aName("b", 25)},
		"0":                          {aNumber("0", 0, 0)},
		"0000007":                    {aNumber("0000007", 7, 0)},
		"0000000 9999999":            {aNumber("0000000", 0, 0), aNumber("9999999", 9999999, 8)},
		"1234567;":                   {aNumber("1234567", 1234567, 0), aSymbol(";", 7)},
		"1.20=x":                     {aNumber("1", 1, 0), aSymbol(".", 1), aNumber("20", 20, 2), aSymbol("=", 4), aName("x", 5)},
		"7#x":                        {aNumber("7", 7, 0)},
		"7!=8":                       {aNumber("7", 7, 0), aSymbol("!=", 1), aNumber("8", 8, 3)},
		"!=":                         {aSymbol("!=", 0)},
		"!==":                        {aSymbol("!=", 0), aSymbol("=", 2)},
		"=!=":                        {aSymbol("=", 0), aSymbol("!=", 1)},
		"<=":                         {aSymbol("<=", 0)},
		">=":                         {aSymbol(">=", 0)},
		"==":                         {aSymbol("=", 0), aSymbol("=", 1)},
		"===":                        {aSymbol("=", 0), aSymbol("=", 1), aSymbol("=", 2)},
		"=<":                         {aSymbol("=", 0), aSymbol("<", 1)},
		"=>":                         {aSymbol("=", 0), aSymbol(">", 1)},
		"<>=":                        {aSymbol("<", 0), aSymbol(">=", 1)},
		"<==":                        {aSymbol("<=", 0), aSymbol("=", 2)},
		"<<=":                        {aSymbol("<", 0), aSymbol("<=", 1)},
		"< =":                        {aSymbol("<", 0), aSymbol("=", 2)},
		"<#\n=":                      {aSymbol("<", 0), aSymbol("=", 3)},
		"a<=b":                       {aName("a", 0), aSymbol("<=", 1), aName("b", 3)},
		"(a_1)[2]{b}": {
			aSymbol("(", 0), aName("a_1", 1), aSymbol(")", 4), aSymbol("[", 5), aNumber("2", 2, 6), aSymbol("]", 7), aSymbol("{", 8), aName("b", 9), aSymbol("}", 10),
		},
		";,.:": {aSymbol(";", 0), aSymbol(",", 1), aSymbol(".", 2), aSymbol(":", 3)},
	} {
		if got := lex(text); !got.equal(result{tokens: want}) {
			t.Errorf("%q: %v instead of %v", text, got, want)
		}
	}
}

// P5.1: texts with an error, the first of several ones among them.
func TestErrors(t *testing.T) {
	long := strings.Repeat("n", 25)
	for text, want := range map[string]result{
		"!":                   failed(api.ErrChar, 0),
		"a!":                  failed(api.ErrChar, 1),
		"! =":                 failed(api.ErrChar, 0),
		"!!=":                 failed(api.ErrChar, 0),
		"!#=":                 failed(api.ErrChar, 0),
		"<!":                  failed(api.ErrChar, 1),
		"_":                   failed(api.ErrChar, 0),
		"_a":                  failed(api.ErrChar, 0),
		"a _7":                failed(api.ErrChar, 2),
		";_":                  failed(api.ErrChar, 1),
		"\r":                  failed(api.ErrChar, 0),
		"a\r\n":               failed(api.ErrChar, 1),
		"a\x00":               failed(api.ErrChar, 1),
		"aä":                  failed(api.ErrChar, 1),
		"7\xff":               failed(api.ErrChar, 1),
		"7!":                  failed(api.ErrChar, 1),
		"-7":                  failed(api.ErrChar, 0),
		"7_":                  failed(api.ErrNumber, 0),
		"a 7Z":                failed(api.ErrNumber, 2),
		"00000007":            failed(api.ErrNumber, 0),
		"10000000":            failed(api.ErrNumber, 0),
		"1234567a":            failed(api.ErrNumber, 0),
		"12345678a":           failed(api.ErrNumber, 0),
		"12345678;":           failed(api.ErrNumber, 0),
		"=12345678":           failed(api.ErrNumber, 1),
		long:                  failed(api.ErrLimit, 0),
		"n" + long:            failed(api.ErrLimit, 0),
		"a " + long + " b":    failed(api.ErrLimit, 2),
		"a.n23_" + long:       failed(api.ErrLimit, 2),
		"# !\n" + long + "!":  failed(api.ErrLimit, 4),
		"a ! 7x " + long:      failed(api.ErrChar, 2),
		"a 7x ! " + long:      failed(api.ErrNumber, 2),
		"a " + long + " 7x !": failed(api.ErrLimit, 2),
		"7x _":                failed(api.ErrNumber, 0),
		"_ 7x":                failed(api.ErrChar, 0),
	} {
		if got := lex(text); !got.equal(want) {
			t.Errorf("%q: %v instead of %v", text, got, want)
		}
	}
}

// P5.1: texts of all kinds have the tokens, or the error, of the model.
func TestLexAsDefined(t *testing.T) {
	errors := map[api.Errno]int{}
	for _, text := range append(texts(), shortTexts(5)...) {
		got, want := lex(text), modelLex(text)
		if !got.equal(want) {
			t.Errorf("%s: %v instead of %v", short(text), got, want)
		}
		errors[want.err]++
	}
	for _, err := range []api.Errno{api.OK, api.ErrChar, api.ErrNumber, api.ErrLimit} {
		if errors[err] < 100 {
			t.Errorf("only %d texts with the error %d", errors[err], err)
		}
	}
}

// P5.1: each byte alone.
func TestEveryByte(t *testing.T) {
	for b := range 256 {
		text := string([]byte{byte(b)})
		want := failed(api.ErrChar, 0)
		switch {
		case b >= 'a' && b <= 'z' || b >= 'A' && b <= 'Z':
			want = result{tokens: []api.Token{aName(text, 0)}}
		case b >= '0' && b <= '9':
			want = result{tokens: []api.Token{aNumber(text, b-'0', 0)}}
		case strings.Contains(" \t\n#", text):
			want = result{}
		case strings.Contains(";,.:()[]{}=<>", text):
			want = result{tokens: []api.Token{aSymbol(text, 0)}}
		}
		if got := lex(text); !got.equal(want) {
			t.Errorf("byte %d: %v instead of %v", b, got, want)
		}
	}
}

// P5.1: each byte directly after each other one, alone and between other tokens.
func TestEveryPairOfBytes(t *testing.T) {
	for first := range 256 {
		for second := range 256 {
			pair := string([]byte{byte(first), byte(second)})
			for _, text := range []string{pair, "a" + pair + "7", "12" + pair + "=", "\n" + pair + "\nx"} {
				if got, want := lex(text), modelLex(text); !got.equal(want) {
					t.Fatalf("%q: %v instead of %v", text, got, want)
				}
			}
		}
	}
}

// P5.1: nothing in a comment is looked at, and only a line feed ends it.
func TestEveryByteInComments(t *testing.T) {
	for b := range 256 {
		if b == '\n' {
			continue
		}
		for _, text := range []string{"a#%", "a#%\n", "a#x%y\n;", "#%", "#%#\n"} {
			text = strings.ReplaceAll(text, "%", string([]byte{byte(b)}))
			want := []api.Token{}
			if text[0] == 'a' {
				want = append(want, aName("a", 0))
			}
			if at := strings.LastIndex(text, "\n;"); at >= 0 {
				want = append(want, aSymbol(";", at+1))
			}
			if got := lex(text); !got.equal(result{tokens: want}) {
				t.Errorf("%q: %v instead of %v", text, got, want)
			}
		}
	}
}

// P5.1: each byte directly after a number of up to 7 digits.
func TestEveryByteAfterNumbers(t *testing.T) {
	for _, digits := range []string{"7", "007", "0000000", "1234567"} {
		n, _ := strconv.Atoi(digits)
		for b := range 256 {
			text := digits + string([]byte{byte(b)})
			got := lex(text)
			switch {
			case b >= 'a' && b <= 'z' || b >= 'A' && b <= 'Z' || b == '_', b >= '0' && b <= '9' && len(digits) == 7:
				if !got.equal(failed(api.ErrNumber, 0)) {
					t.Errorf("%q: %v", text, got)
				}
			case b >= '0' && b <= '9':
				if !got.equal(result{tokens: []api.Token{aNumber(text, 10*n+b-'0', 0)}}) {
					t.Errorf("%q: %v", text, got)
				}
			case strings.IndexByte(" \t\n#", byte(b)) >= 0:
				if !got.equal(result{tokens: []api.Token{aNumber(digits, n, 0)}}) {
					t.Errorf("%q: %v", text, got)
				}
			case strings.IndexByte(";,.:()[]{}=<>", byte(b)) >= 0:
				if !got.equal(result{tokens: []api.Token{aNumber(digits, n, 0), aSymbol(text[len(digits):], len(digits))}}) {
					t.Errorf("%q: %v", text, got)
				}
			default:
				if !got.equal(failed(api.ErrChar, len(digits))) {
					t.Errorf("%q: %v", text, got)
				}
			}
		}
	}
}

// P5.1: names and numbers of all lengths up to far beyond the greatest ones.
func TestLengths(t *testing.T) {
	for n := 1; n < 300; n++ {
		for _, part := range []string{"n", "N", "7", "_"} {
			text := "x" + strings.Repeat(part, n-1)
			want := result{tokens: []api.Token{aName(text, 0)}}
			if n > 24 {
				want = failed(api.ErrLimit, 0)
			}
			if got := lex(text); !got.equal(want) {
				t.Errorf("%s: %v", short(text), got)
			}
		}
		for _, digit := range []int{0, 1, 9} {
			text := strings.Repeat(strconv.Itoa(digit), n)
			want := failed(api.ErrNumber, 0)
			if n <= 7 {
				value, _ := strconv.Atoi(text)
				want = result{tokens: []api.Token{aNumber(text, value, 0)}}
			}
			if got := lex(text); !got.equal(want) {
				t.Errorf("%s: %v", short(text), got)
			}
		}
	}
}

// P5.1: a text has at most 20000 bytes; a longer one has no other error.
func TestLimitOfBytes(t *testing.T) {
	for _, fill := range []string{" ", "\n", "#", "!", "_", "a", "7", ";", "\x80", "a ", "7x", "#\n"} {
		text := strings.Repeat(fill, 20002)
		if got := lex(text[:20000]); got.at == -1 {
			t.Errorf("20000 bytes %q: %v", fill, got)
		}
		for _, n := range []int{20001, 20002} {
			if got := lex(text[:n]); !got.equal(failed(api.ErrLimit, -1)) {
				t.Errorf("%d bytes %q: %v", n, fill, got)
			}
		}
	}
	for text, want := range map[string]result{
		strings.Repeat(" ", 20000):                           {},
		strings.Repeat("#", 20000):                           {},
		strings.Repeat("\n", 19998) + "<=":                   {tokens: []api.Token{aSymbol("<=", 19998)}},
		strings.Repeat("\t", 19999) + "<":                    {tokens: []api.Token{aSymbol("<", 19999)}},
		strings.Repeat(" ", 19976) + strings.Repeat("n", 24): {tokens: []api.Token{aName(strings.Repeat("n", 24), 19976)}},
		strings.Repeat(" ", 19999) + "!":                     failed(api.ErrChar, 19999),
		strings.Repeat(" ", 19998) + "7x":                    failed(api.ErrNumber, 19998),
		strings.Repeat("a", 20000):                           failed(api.ErrLimit, 0),
		strings.Repeat("7", 20000):                           failed(api.ErrNumber, 0),
		strings.Repeat(";", 20000):                           failed(api.ErrLimit, 5000),
	} {
		if got := lex(text); !got.equal(want) {
			t.Errorf("%s: %v", short(text), got)
		}
	}
}

// P5.1: a text has at most 5000 tokens, whatever they are; the 5001st one is an error at its place, whatever follows it.
func TestLimitOfTokens(t *testing.T) {
	for _, one := range []string{";", "a ", "7\n", "<=", "!=", "#\n;", "<"} {
		if got := lexed(t, strings.Repeat(one, 5000)); len(got) != 5000 {
			t.Errorf("%q: %d tokens", one, len(got))
		}
		at := 5000*len(one) + strings.LastIndex("\n"+one[:len(one)-1], "\n")
		for _, more := range []string{one, one + "!", one + " 7x", one + one + one, one + " " + strings.Repeat("n", 25)} {
			if got := lex(strings.Repeat(one, 5000) + more); !got.equal(failed(api.ErrLimit, at)) {
				t.Errorf("%q and %q: %v", one, more, got)
			}
		}
	}
	tokens := strings.Repeat("; ", 5000)
	for _, more := range []string{"", " ", "\n", "#", "# ;", "#\n", " \t\n# a\n"} {
		if got := lexed(t, tokens+more); len(got) != 5000 {
			t.Errorf("%q: %d tokens", more, len(got))
		}
	}
	for more, want := range map[string]result{
		"a":                           failed(api.ErrLimit, 10000),
		"7":                           failed(api.ErrLimit, 10000),
		" \n#;\n<=":                   failed(api.ErrLimit, 10005),
		"a 7x":                        failed(api.ErrLimit, 10000),
		"!":                           failed(api.ErrChar, 10000),
		"_;":                          failed(api.ErrChar, 10000),
		"# a\n\r":                     failed(api.ErrChar, 10004),
		"\x80":                        failed(api.ErrChar, 10000),
		"7x":                          failed(api.ErrNumber, 10000),
		" 12345678 ;":                 failed(api.ErrNumber, 10001),
		strings.Repeat("n", 25):       failed(api.ErrLimit, 10000),
		" " + strings.Repeat("n", 25): failed(api.ErrLimit, 10001),
	} {
		if got := lex(tokens + more); !got.equal(want) {
			t.Errorf("%q: %v instead of %v", more, got, want)
		}
	}
	for _, n := range []int{0, 1, 4998, 4999} {
		text := strings.Repeat("; ", n) + "! " + strings.Repeat("; ", 5000)
		if got := lex(text); !got.equal(failed(api.ErrChar, 2*n)) {
			t.Errorf("an error after %d tokens: %v", n, got)
		}
	}
}

// P5.1, Ways: the range function ends with the first error, even if who ranges over it would go on, and with who ranges
// over it.
func TestTokensEnd(t *testing.T) {
	for text, want := range map[string]int{"": 0, "a": 1, "a 7;": 3, "a ! b": 2, "7x": 1, "a;12345678 !": 3} {
		n, last := 0, api.OK
		for token, err := range tokens(text) {
			n, last = n+1, err
			if err != api.OK && token != (api.Token{At: lex(text).at}) || n > want {
				t.Fatalf("%q: %v, %d", text, token, err)
			}
		}
		if n != want || last != lex(text).err {
			t.Errorf("%q: %d, the last one with error %d", text, n, last)
		}
		for range tokens(text) {
			break
		}
	}
}

// P5.2: tokens stand at their places, which increase, and there are only gaps beside them.
func TestPlaces(t *testing.T) {
	tried := 0
	for _, text := range texts() {
		text = beginning(text)
		end := 0
		for i, token := range lexed(t, text) {
			if token.At < end || token.Text == "" || !strings.HasPrefix(text[token.At:], token.Text) || !onlyGaps(text[end:token.At]) {
				t.Fatalf("%s: token %d is %v", short(text), i, token)
			}
			end = token.At + len(token.Text)
			tried++
		}
		if !onlyGaps(text[end:]) {
			t.Fatalf("%s: not only gaps after %d", short(text), end)
		}
	}
	if tried < 10000 {
		t.Errorf("only %d tokens were tried", tried)
	}
}

// P5.3: tokens that are written with a blank after each are the same ones, unless this text is too long.
func TestAgain(t *testing.T) {
	tooLong := 0
	for _, text := range texts() {
		tokens := lexed(t, beginning(text))
		var again strings.Builder
		for _, token := range tokens {
			again.WriteString(token.Text + " ")
		}
		if again.Len() > 20000 {
			tooLong++
			if got := lex(again.String()); !got.equal(failed(api.ErrLimit, -1)) {
				t.Fatalf("%s: %v", short(again.String()), got)
			}
			continue
		}
		if got := lexed(t, again.String()); !slices.Equal(unplaced(got), unplaced(tokens)) {
			t.Fatalf("%s: %v instead of %v", short(again.String()), got, tokens)
		}
	}
	if tooLong == 0 {
		t.Error("no text became too long")
	}
}

// checkParts checks what two texts without an error, with a line feed between them, have.
func checkParts(t *testing.T, first, second string) {
	t.Helper()
	text := first + "\n" + second
	a, b := lexed(t, first), shifted(lexed(t, second), len(first)+1)
	want := result{tokens: append(slices.Clone(a), b...)}
	switch {
	case len(text) > 20000:
		want = failed(api.ErrLimit, -1)
	case len(want.tokens) > 5000:
		want = failed(api.ErrLimit, want.tokens[5000].At)
	}
	if got := lex(text); !got.equal(want) {
		t.Fatalf("%s and %s: %v instead of %v", short(first), short(second), got, want)
	}
}

// P5.4: the tokens of two texts are those of both; beyond the limits there is an error.
func TestParts(t *testing.T) {
	var good []string
	for _, text := range append(edges(), shortTexts(2)...) {
		good = append(good, beginning(text))
	}
	for _, first := range good {
		for _, second := range good {
			checkParts(t, first, second)
		}
	}
	w := newWriter(3)
	for range 5000 {
		checkParts(t, w.good(w.IntN(12)), w.good(w.IntN(12)))
	}
	for _, n := range []int{0, 1, 2500, 4999, 5000} {
		for _, more := range []int{0, 1, 2, 2500, 2501, 5000} {
			checkParts(t, strings.Repeat(";", n), strings.Repeat("=", more))
		}
	}
	for _, n := range []int{0, 1, 9999, 10000, 19998, 19999, 20000} {
		for _, more := range []int{0, 1, 9998, 9999, 10000, 10001} {
			checkParts(t, strings.Repeat(" ", n), strings.Repeat("#", more))
		}
	}
}

// P5.5: a text has no error before the place of its error, and the same error from there on.
func TestBeginnings(t *testing.T) {
	tried, tooMany := map[api.Errno]int{}, 0
	for _, text := range texts() {
		r := lex(text)
		if r.err == api.OK || r.at == -1 {
			continue
		}
		tried[r.err]++
		before, rest := lexed(t, text[:r.at]), lex(text[r.at:])
		isToken := rest.err == api.OK || rest.at > 0
		if len(before) == 5000 && r.err == api.ErrLimit && isToken {
			tooMany++
			continue
		}
		if !rest.equal(failed(r.err, 0)) {
			t.Fatalf("%s: error %d at %d, and from there on %v", short(text), r.err, r.at, rest)
		}
	}
	if tooMany == 0 || tried[api.ErrChar] < 100 || tried[api.ErrNumber] < 100 || tried[api.ErrLimit] < 100 {
		t.Errorf("tried: %v, and %d with too many tokens", tried, tooMany)
	}
}

// P5.5: if the error is about the number of tokens, the text from there on begins with a token.
func TestBeginningsOfTooManyTokens(t *testing.T) {
	for _, more := range []string{"a", "7 7x", "<=;", ";!"} {
		text := strings.Repeat("= ", 5000) + more
		r := lex(text)
		if !r.equal(failed(api.ErrLimit, 10000)) || len(lexed(t, text[:r.at])) != 5000 {
			t.Errorf("%q: %v", more, r)
		}
		if rest := lex(text[r.at:]); rest.err != api.OK && rest.at == 0 {
			t.Errorf("%q: %v", more, rest)
		}
	}
}

// spread returns a text with a gap at the beginning, after some of its tokens, and at the end, and what Lex should return
// for it.
func spread(text, gap string, after func(i int) bool) (string, result) {
	r := lex(text)
	before := lex(beginning(text)).tokens
	var b strings.Builder
	b.WriteString(gap)
	end, by := 0, len(gap)
	var moved []api.Token
	for i, token := range before {
		moved = append(moved, token)
		moved[i].At += by
		next := token.At + len(token.Text)
		b.WriteString(text[end:next])
		end = next
		if after(i) {
			b.WriteString(gap)
			by += len(gap)
		}
	}
	b.WriteString(text[end:] + gap)
	if r.err != api.OK {
		return b.String(), failed(r.err, r.at+by)
	}
	return b.String(), result{tokens: moved}
}

// P5.6: further gaps change nothing but places.
func TestGaps(t *testing.T) {
	w := newWriter(4)
	for n, text := range texts() {
		gaps := someGaps()
		if n%20 != 0 {
			gaps = []string{gaps[n%len(gaps)], w.gap()}
		}
		for _, gap := range gaps {
			for _, after := range []func(i int) bool{
				func(i int) bool { return true },
				func(i int) bool { return false },
				func(i int) bool { return w.IntN(2) == 0 },
			} {
				longer, want := spread(text, gap, after)
				if len(longer) > 20000 {
					want = failed(api.ErrLimit, -1)
				}
				if got := lex(longer); !got.equal(want) {
					t.Fatalf("%s with %q: %v instead of %v", short(text), gap, got, want)
				}
			}
		}
	}
}

// P5.6: a comment that ends before a line feed of the text, or with the text, is a gap as well.
func TestCommentsAsGaps(t *testing.T) {
	for _, comment := range []string{"#", "##", "# a", "#!7x_", " #\x80;"} {
		want := lexed(t, "a\n;\n7\n")
		got := lexed(t, "a"+comment+"\n;"+comment+"\n7"+comment+"\n"+comment)
		if !slices.Equal(unplaced(got), unplaced(want)) {
			t.Errorf("%q: %v", comment, got)
		}
	}
}

// one reports whether a text is one token.
func one(text string) bool {
	r := lex(text)
	return r.err == api.OK && len(r.tokens) == 1 && r.tokens[0].Text == text
}

// P5.7: two tokens that follow each other directly are no token together.
func TestTokensThatFollowDirectly(t *testing.T) {
	tried := 0
	for _, text := range texts() {
		tokens := lexed(t, beginning(text))
		for i := 1; i < len(tokens); i++ {
			both := tokens[i-1].Text + tokens[i].Text
			if tokens[i-1].At+len(tokens[i-1].Text) != tokens[i].At {
				continue
			}
			tried++
			if one(both) || len(lexed(t, both)) != 2 {
				t.Fatalf("%s: %q are two tokens", short(text), both)
			}
		}
	}
	if tried < 1000 {
		t.Errorf("only %d pairs were tried", tried)
	}
}

// P5.7: each token is as long as it can be: no longer part of the text is a token.
func TestLongestTokens(t *testing.T) {
	for _, text := range append(edges(), shortTexts(4)...) {
		for _, token := range lexed(t, beginning(text)) {
			rest := text[token.At:]
			for n := len(token.Text) + 1; n <= min(len(rest), 30); n++ {
				if one(rest[:n]) {
					t.Fatalf("%q: %q is a token, and not only %q", text, rest[:n], token.Text)
				}
			}
		}
	}
	for _, first := range symbols() {
		for _, second := range symbols() {
			both := first + second
			want := []api.Token{aSymbol(first, 0), aSymbol(second, len(first))}
			if slices.Contains(symbols(), both) {
				want = []api.Token{aSymbol(both, 0)}
			}
			if got := lex(both); !got.equal(result{tokens: want}) {
				t.Errorf("%q: %v instead of %v", both, got, want)
			}
		}
	}
}

// P5.8: each name is one token.
func TestNames(t *testing.T) {
	const letters = "ABCDEFGHIJKLMNOPQRSTUVWXYZabcdefghijklmnopqrstuvwxyz"
	names := []string{"a23456789_123456789_1234", strings.Repeat("Q", 24), "z" + strings.Repeat("_", 23), "Z" + strings.Repeat("0", 23)}
	for _, first := range letters {
		names = append(names, string(first))
		for _, second := range letters + "0123456789_" {
			names = append(names, string(first)+string(second), "x"+strings.Repeat("y", 21)+string(second)+string(first))
		}
	}
	w := newWriter(5)
	longest := 0
	for range 5000 {
		n := w.name()
		longest = max(longest, len(n))
		names = append(names, n)
	}
	for _, n := range names {
		if got := lex(n); !got.equal(result{tokens: []api.Token{aName(n, 0)}}) {
			t.Errorf("%q: %v", n, got)
		}
	}
	if longest != 24 {
		t.Errorf("the longest name had %d bytes", longest)
	}
}

// P5.8: the decimal digits of each number from 0 to 9999999 are one token; many of them are tried in one text.
func TestNumbers(t *testing.T) {
	const together = 2500
	for from := 0; from < 10000000; from += together {
		text := make([]byte, 0, 20000)
		for n := from; n < from+together; n++ {
			text = append(strconv.AppendInt(text, int64(n), 10), ' ')
		}
		tokens := lexed(t, string(text))
		if len(tokens) != together {
			t.Fatalf("from %d: %d tokens", from, len(tokens))
		}
		at := 0
		for i, token := range tokens {
			digits := strconv.Itoa(from + i)
			if token != aNumber(digits, from+i, at) {
				t.Fatalf("%d: %v", from+i, token)
			}
			at += len(digits) + 1
		}
	}
}

// P5.8: the decimal digits of a number alone.
func TestNumbersAlone(t *testing.T) {
	numbers := []int{0, 1, 9, 10, 99, 100, 999999, 1000000, 1000001, 9999998, 9999999}
	for n := 0; n < 10000000; n += 997 {
		numbers = append(numbers, n)
	}
	for _, n := range numbers {
		digits := strconv.Itoa(n)
		if got := lex(digits); !got.equal(result{tokens: []api.Token{aNumber(digits, n, 0)}}) {
			t.Errorf("%s: %v", digits, got)
		}
	}
}

// DOC.md, P1: nothing panics, whatever the bytes are, and with an error there are no tokens.
func TestAllArguments(t *testing.T) {
	w := newWriter(6)
	for range 20000 {
		text := make([]byte, w.IntN(40))
		for i := range text {
			text[i] = byte(w.Uint32())
		}
		got := lex(string(text))
		if !got.equal(modelLex(string(text))) || got.err != api.OK && got.tokens != nil || got.err == api.OK && got.at != 0 {
			t.Errorf("%q: %v", text, got)
		}
	}
	for _, fill := range []string{"a", "7", ";", "!", "#", "\n", "\x80", "a 7;"} {
		if got := lex(strings.Repeat(fill, 1<<22)); !got.equal(failed(api.ErrLimit, -1)) {
			t.Errorf("%q: %v", fill, got)
		}
	}
}

// DOC.md, P3: equal arguments yield equal results, wherever they are in memory and whoever calls at the same time.
func TestEqualArguments(t *testing.T) {
	all := edges()
	var wants []result
	for _, text := range all {
		wants = append(wants, lex(text))
	}
	var group sync.WaitGroup
	for range 8 {
		group.Go(func() {
			for range 20 {
				for i, text := range all {
					if !lex(string([]byte(text))).equal(wants[i]) {
						t.Errorf("%q: another result for equal arguments", text)
						return
					}
				}
			}
		})
	}
	group.Wait()
}

// Rules of DOC.md: a result shares no memory that a caller could change with another one.
func TestMemory(t *testing.T) {
	const text = "a = 7; b"
	first := lexed(t, text)
	want := slices.Clone(first)
	second := lexed(t, text)
	for i := range first {
		first[i] = api.Token{}
	}
	first = append(first, aSymbol(";", 0))
	if !slices.Equal(second, want) || !slices.Equal(lexed(t, text), want) || len(first) != 6 {
		t.Error("a result was changed")
	}
}
