package north

import "pandect/api"

// wholeFormula takes a whole condition about cases.
func (r *reader) wholeFormula() api.Formula {
	return whole(r, r.formula, func(f api.Formula) []api.Formula { return f.Kids })
}

// wholeStart takes a whole condition of commencement.
func (r *reader) wholeStart() api.Start {
	return whole(r, r.start, func(s api.Start) []api.Start { return s.Kids })
}

// whole takes a whole condition of either kind, which has to be within the limits. Conditions that are too great are
// taken to their ends, because the errors within them come first.
func whole[T any](r *reader, read func() T, kids func(T) []T) T {
	at := r.ahead().At
	c := read()
	size, depth := measure(c, kids)
	require(size <= api.MaxSize && depth <= api.MaxDepth, api.ErrLimit, at)
	return c
}

// measure returns the size and the depth of a condition of either kind.
func measure[T any](c T, kids func(T) []T) (size, depth int) {
	for _, kid := range kids(c) {
		kidSize, kidDepth := measure(kid, kids)
		size += kidSize
		depth = max(depth, kidDepth)
	}
	return size + 1, depth + 1
}

// formula takes a condition about cases of any size.
func (r *reader) formula() api.Formula {
	node := func(op int, kids []api.Formula) api.Formula { return api.Formula{Op: op, Kids: kids} }
	return condition(r, r.formulaPart, node, api.OpAnd, api.OpOr)
}

// start takes a condition of commencement of any size.
func (r *reader) start() api.Start {
	node := func(op int, kids []api.Start) api.Start { return api.Start{Op: op, Kids: kids} }
	return condition(r, r.startPart, node, api.StartAll, api.StartAny)
}

// condition takes a condition of either kind: parts that are joined by `and`, and these by `or`, to nodes with an
// operation for each of both words.
func condition[T any](r *reader, part func() T, node func(op int, kids []T) T, and, or int) T {
	joined := func(part func() T, word string, op int) T {
		parts := []T{part()}
		for r.takeIf(word) {
			parts = append(parts, part())
		}
		if len(parts) == 1 {
			return parts[0]
		}
		return node(op, parts)
	}
	conjunction := func() T { return joined(part, "and", and) }
	return joined(conjunction, "or", or)
}

// enclosed takes a condition of either kind, and the parenthesis behind it.
func enclosed[T any](r *reader, read func() T) T {
	c := read()
	r.word(")")
	return c
}

// formulaPart takes a part of a condition about cases.
func (r *reader) formulaPart() api.Formula {
	switch {
	case r.takeIf("not"):
		return api.Formula{Op: api.OpNot, Kids: []api.Formula{r.formulaPart()}}
	case r.takeIf("("):
		return enclosed(r, r.formula)
	case r.takeIf("true"):
		return api.Formula{Op: api.OpTrue}
	case r.takeIf("false"):
		return api.Formula{Op: api.OpFalse}
	}
	return r.named()
}

// named takes a term, or a test of a fact.
func (r *reader) named() api.Formula {
	name := r.name()
	how := comparison(r.ahead().Text)
	if how == 0 {
		return api.Formula{Op: api.OpTerm, Name: name}
	}
	r.take()
	return api.Formula{Op: api.OpTest, Name: name, Cmp: how, N: r.number()}
}

// comparison returns the comparison of a symbol, 0 for others.
func comparison(symbol string) int {
	switch symbol {
	case "=":
		return api.CmpEqual
	case "!=":
		return api.CmpUnlike
	case "<":
		return api.CmpLess
	case "<=":
		return api.CmpAtMost
	case ">":
		return api.CmpMore
	case ">=":
		return api.CmpAtLeast
	}
	return 0
}

// startPart takes a part of a condition of commencement.
func (r *reader) startPart() api.Start {
	token := r.take()
	switch token.Text {
	case "always":
		return api.Start{Op: api.StartAlways}
	case "never":
		return api.Start{Op: api.StartNever}
	case "day":
		return api.Start{Op: api.StartDay, Day: r.number()}
	case "order":
		return api.Start{Op: api.StartOrder, Name: r.name()}
	case "event":
		return api.Start{Op: api.StartEvent, Name: r.name()}
	case "begun":
		return api.Start{Op: api.StartBegun, Name: r.name()}
	case "over":
		return api.Start{Op: api.StartOver, Name: r.name()}
	case "(":
		return enclosed(r, r.start)
	}
	panic(failure{api.ErrSyntax, token.At})
}
