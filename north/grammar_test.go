package north

import (
	"regexp"
	"slices"
	"strings"

	"pandect/api"
)

// chapterGrammar is the grammar as it stands in the chapter.
const chapterGrammar = `
    text:  rank NAME ":" ( "define" NAME | "answer" NAME "is" INT ) [ "if" cond ]
           [ "notwithstanding" NAME { "," NAME } ] [ "from" start ] [ "until" start ] [ "again" start ] "."
    rank:  "constitution" | "act" | "regulation" | "bylaw"
    cond:  and { "or" and }
    and:   not { "and" not }
    not:   "not" not | "(" cond ")" | "true" | "false" | NAME
           | NAME ( "=" | "!=" | "<" | "<=" | ">" | ">=" ) INT
    start: all { "or" all }
    all:   one { "and" one }
    one:   "always" | "never" | "day" INT | "order" NAME | "event" NAME | "begun" NAME | "over" NAME | "(" start ")"
`

// keyWords returns the key words as they stand in the chapter.
func keyWords() []string {
	return strings.Split("constitution, act, regulation, bylaw, define, answer, is, if, notwithstanding, from, until, again, or, "+
		"and, not, true, false, always, never, day, order, event, begun, over", ", ")
}

// grammar is the rules of a grammar with numbers for its symbols. Rule 0 is that of whole texts.
type grammar struct {
	numbers map[string]int // of symbols: quoted words, NAME, INT, and the names of rules
	rules   []rule
	of      map[int][]int // the rules of a symbol
	empty   map[int]bool  // the symbols that may stand for nothing
}

// rule is a symbol and what it may stand for.
type rule struct {
	symbol int
	parts  []int
}

// newGrammar reads a grammar.
func newGrammar(text string) *grammar {
	g := &grammar{numbers: map[string]int{}, of: map[int][]int{}, empty: map[int]bool{}}
	words := regexp.MustCompile(`"[^"]*"|\w+:?|[()[\]{}|]`).FindAllString(text, -1)
	for len(words) > 0 {
		symbol := g.number(strings.TrimSuffix(words[0], ":"))
		words = g.alternatives(symbol, words[1:])
	}
	for again := true; again; {
		again = false
		for _, r := range g.rules {
			if !g.empty[r.symbol] && !slices.ContainsFunc(r.parts, func(s int) bool { return !g.empty[s] }) {
				g.empty[r.symbol], again = true, true
			}
		}
	}
	return g
}

// number returns the number of a symbol.
func (g *grammar) number(symbol string) int {
	if _, known := g.numbers[symbol]; !known {
		g.numbers[symbol] = len(g.numbers) + 1
	}
	return g.numbers[symbol]
}

// fresh returns the number of a new symbol.
func (g *grammar) fresh() int { return g.number(strings.Repeat("+", len(g.numbers))) }

func (g *grammar) add(symbol int, parts ...int) {
	g.of[symbol] = append(g.of[symbol], len(g.rules))
	g.rules = append(g.rules, rule{symbol, parts})
}

// alternatives adds the rules of a symbol, and returns the words behind them.
func (g *grammar) alternatives(symbol int, words []string) []string {
	at := len(g.rules)
	g.add(symbol)
	var parts []int
	for len(words) > 0 && !strings.Contains(")]}", words[0]) && !strings.HasSuffix(words[0], ":") {
		word := words[0]
		words = words[1:]
		switch word {
		case "|":
			g.rules[at].parts = parts
			parts, at = nil, len(g.rules)
			g.add(symbol)
		case "(", "[", "{":
			group := g.fresh()
			words = g.alternatives(group, words)[1:]
			switch word {
			case "[":
				g.add(group)
			case "{":
				list := g.fresh()
				g.add(list)
				g.add(list, list, group)
				group = list
			}
			parts = append(parts, group)
		default:
			parts = append(parts, g.number(word))
		}
	}
	g.rules[at].parts = parts
	return words
}

// symbols returns the symbols of tokens, 0 for those that the grammar does not have.
func (g *grammar) symbols(tokens []api.Token) []int {
	list := make([]int, len(tokens))
	for i, token := range tokens {
		switch word := g.numbers[`"`+token.Text+`"`]; {
		case word != 0:
			list[i] = word
		case token.Kind == api.TokName:
			list[i] = g.numbers["NAME"]
		case token.Kind == api.TokNumber:
			list[i] = g.numbers["INT"]
		}
	}
	return list
}

// recognizer says which lists of symbols are texts of a grammar, or begin one. It follows all ways in which the symbols
// can be read at the same time (Earley's algorithm), and keeps what it knows of the last list for those that begin alike.
type recognizer struct {
	*grammar
	read []int     // symbols
	sets []itemSet // what may be read before each of these symbols, and behind the last one
}

// item is a rule that is being read: so many of its parts have been, since a place in the list.
type item struct{ rule, done, since int }

type itemSet struct {
	known map[item]bool
	list  []item
	next  map[int][]item // by the symbol that they need next
}

func newRecognizer(text string) *recognizer {
	r := &recognizer{grammar: newGrammar(text)}
	r.close([]item{{}})
	return r
}

// close adds a set of the items given, and of all that they lead to without a further symbol.
func (r *recognizer) close(items []item) {
	place := len(r.sets)
	set := itemSet{known: map[item]bool{}, next: map[int][]item{}}
	add := func(i item) {
		if !set.known[i] {
			set.known[i] = true
			set.list = append(set.list, i)
		}
	}
	for _, i := range items {
		add(i)
	}
	for n := 0; n < len(set.list); n++ {
		i := set.list[n]
		rule := r.rules[i.rule]
		if i.done == len(rule.parts) {
			// A rule that begins here stands for nothing: who needs it has gone on without it.
			if i.since < place {
				for _, j := range r.sets[i.since].next[rule.symbol] {
					add(item{j.rule, j.done + 1, j.since})
				}
			}
			continue
		}
		needed := rule.parts[i.done]
		set.next[needed] = append(set.next[needed], i)
		for _, other := range r.of[needed] {
			add(item{other, 0, place})
		}
		if r.empty[needed] {
			add(item{i.rule, i.done + 1, i.since})
		}
	}
	r.sets = append(r.sets, set)
}

// begins returns how many symbols begin a text.
func (r *recognizer) begins(symbols []int) int {
	same := 0
	for same < len(symbols) && same < len(r.read) && symbols[same] == r.read[same] {
		same++
	}
	r.read, r.sets = r.read[:same], r.sets[:same+1]
	for _, symbol := range symbols[same:] {
		var items []item
		for _, i := range r.sets[len(r.read)].next[symbol] {
			items = append(items, item{i.rule, i.done + 1, i.since})
		}
		if len(items) == 0 {
			break
		}
		r.close(items)
		r.read = append(r.read, symbol)
	}
	return len(r.read)
}

// whole reports whether symbols are a text.
func (r *recognizer) whole(symbols []int) bool {
	return r.begins(symbols) == len(symbols) && r.sets[len(symbols)].known[item{0, len(r.rules[0].parts), 0}]
}
