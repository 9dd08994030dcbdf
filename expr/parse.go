package expr

import (
	"platelayer/api"
	"platelayer/isa"
	"platelayer/scan"
)

// parser reads an expression from where the last one stopped; deep is how many signs and brackets are around it.
type parser func(deep int) (api.Expr, api.Errno)

// reader is tokens, and how many of them are read.
type reader struct {
	tokens []api.Token
	count  int
}

// Parse answers the expression that l begins with, as long as may be, and how many tokens it has.
func Parse(l []api.Token) (api.Expr, int, api.Errno) {
	r := reader{tokens: l}
	e, err := r.expression()(0)
	if err != api.OK {
		return api.Expr{}, 0, err
	}
	return e, r.count, api.OK
}

// expression answers what reads expressions of all strengths: each one's chains are made of those of the next stronger one.
func (r *reader) expression() parser {
	var all parser
	// In brackets all strengths stand again, so that all is asked for as late as when it is called.
	part := func(deep int) (api.Expr, api.Errno) { return r.single(deep, all) }
	for strength := strongest; strength >= weakest; strength-- {
		part = r.chain(part, strength)
	}
	all = part
	return all
}

// chain answers what reads parts with signs of that strength between, the left ones first.
func (r *reader) chain(part parser, strength int) parser {
	return func(deep int) (api.Expr, api.Errno) {
		e, err := part(deep)
		for err == api.OK {
			kind := r.takeKind(2, strength)
			if kind == 0 {
				return e, api.OK
			}
			var right api.Expr
			right, err = part(deep)
			e = api.Expr{Kind: kind, Kids: []api.Expr{e, right}}
		}
		return api.Expr{}, err
	}
}

// single reads what has no sign between; all reads what brackets are around.
func (r *reader) single(deep int, all parser) (api.Expr, api.Errno) {
	if deep > api.MaxDeep {
		return api.Expr{}, api.ErrDeep
	}
	if r.count == len(r.tokens) {
		return api.Expr{}, api.ErrEnd
	}
	if kind := r.takeKind(1, 0); kind != 0 {
		kid, err := r.single(deep+1, all)
		if err != api.OK {
			return api.Expr{}, err
		}
		return api.Expr{Kind: kind, Kids: []api.Expr{kid}}, api.OK
	}
	if r.takeSign("(") {
		e, err := all(deep + 1)
		if err == api.OK && !r.takeSign(")") {
			err = api.ErrForm
		}
		return e, err
	}
	t := r.tokens[r.count]
	r.count++
	return leaf(t)
}

// leaf answers the expression of a number's token, or of a name's.
func leaf(t api.Token) (api.Expr, api.Errno) {
	switch {
	case t.Kind == api.TokNumber:
		return api.Expr{Kind: api.ExNumber, N: isa.Signed(t.N)}, api.OK
	case t.Kind != api.TokWord:
		return api.Expr{}, api.ErrForm
	case !scan.Name(t.Text):
		return api.Expr{}, api.ErrName
	}
	return api.Expr{Kind: api.ExName, Name: t.Text}, api.OK
}

// takeSign reads the next token, if it is that sign.
func (r *reader) takeSign(sign string) bool {
	if r.count == len(r.tokens) || !isSign(r.tokens[r.count], sign) {
		return false
	}
	r.count++
	return true
}

// takeKind reads the next token, if it is the sign of a kind with so many Kids, of that strength: the kind, or 0.
func (r *reader) takeKind(kids, strength int) int {
	if r.count == len(r.tokens) {
		return 0
	}
	kind := kindOf(r.tokens[r.count], kids)
	if kind == 0 || kinds[kind].strength != strength {
		return 0
	}
	r.count++
	return kind
}
