package expr

import (
	"slices"
	"strings"

	"platelayer/api"
)

// bracket stands, among the signs that are around something, for one that is open.
const bracket = "("

// Spot is where in an expression a token stands. The empty one is where an expression begins.
type Spot struct {
	around string // the brackets that are open, and the signs that wait for what they are before, the outermost first
	behind bool   // whether it is behind something, so that nothing more must come
}

// Part is what tokens do from a Spot of an expression on, whatever stands before that. No more is kept of them than what
// the expression hangs on, so that a Part is small, however many tokens it is of.
type Part struct {
	spot   Spot
	equs   []api.Equ
	closed []chain // in the brackets around the first Spot that do not stay open, the innermost first
	open   []chain // in the brackets that are open now, the outermost one first: of those around the first Spot only the last one
	unfit  bool    // places stand where they do not fit
	err    api.Errno
}

// From answers the Part of no tokens, from a Spot on. l must stay as it is as long as tokens are added.
func From(spot Spot, l []api.Equ) *Part {
	return &Part{spot: spot, equs: l, open: make([]chain, 1)}
}

// Spot answers where the next token stands.
func (p *Part) Spot() Spot { return p.spot }

// Err answers what is wrong with an expression that goes on so: nothing that follows changes it.
func (p *Part) Err() api.Errno { return p.err }

// Value answers what the expression is, if it began with p, and is all that is there: else ErrForm.
func (p *Part) Value() (api.Value, api.Errno) {
	if p.err != api.OK {
		return api.Value{}, p.err
	}
	return p.First()
}

// First answers what the expression is that p began with, as long as may be: if p has an error beside it, another token stands behind it.
func (p *Part) First() (api.Value, api.Errno) {
	switch {
	case p.spot.behind && p.spot.around == "":
		v := p.total(p.open[0])
		if p.unfit {
			return api.Value{}, api.ErrFit
		}
		return v, api.OK
	case p.err != api.OK:
		return api.Value{}, p.err
	case !p.spot.behind:
		return api.Value{}, api.ErrEnd
	}
	return api.Value{}, api.ErrForm
}

// Add adds a token.
func (p *Part) Add(t api.Token) {
	switch {
	case p.err != api.OK:
	case p.spot.behind:
		p.err = p.addBehind(t)
	default:
		p.err = p.addNext(t)
	}
}

// addBehind adds a token where an expression may end.
func (p *Part) addBehind(t api.Token) api.Errno {
	kind := kindOf(t, 2)
	switch {
	case kind != 0:
		p.sign(kind)
		return api.OK
	case p.spot.around == "" || !isSign(t, ")"):
		return api.ErrForm
	}
	p.end()
	return api.OK
}

// addNext adds a token where something must be.
func (p *Part) addNext(t api.Token) api.Errno {
	if kindOf(t, 1) != 0 || isSign(t, bracket) {
		return p.begin(t.Text)
	}
	e, err := leaf(t)
	if err != api.OK {
		return err
	}
	v, err := Eval(e, p.equs)
	p.put(v)
	return err
}

// begin begins what a bracket, or another sign, is around.
func (p *Part) begin(sign string) api.Errno {
	if len(p.spot.around) == api.MaxDeep {
		return api.ErrDeep
	}
	p.spot.around += sign
	if sign == bracket {
		p.open = append(p.open, chain{})
	}
	return api.OK
}

// end ends what the last bracket is around.
func (p *Part) end() {
	p.spot.around = strings.TrimSuffix(p.spot.around, bracket)
	last := len(p.open) - 1
	if last > 0 {
		v := p.total(p.open[last])
		p.open = p.open[:last]
		p.put(v)
		return
	}
	p.closed = append(p.closed, p.open[0])
	p.open[0] = chain{}
	p.spot.around = within(p.spot.around)
}

// within answers what is around a whole bracket: all but the signs that wait for what is next.
func within(around string) string {
	return around[:strings.LastIndex(around, bracket)+1]
}

// put puts v where something must be, with the signs before it.
func (p *Part) put(v api.Value) {
	rest := within(p.spot.around)
	for i := len(p.spot.around) - 1; i >= len(rest); i-- {
		var err api.Errno
		v, err = ofOne(kindOf(api.Token{Kind: api.TokSign, Text: p.spot.around[i : i+1]}, 1), v)
		p.unfit = p.unfit || err != api.OK
	}
	p.putWhole(v)
}

// putWhole puts v where something must be, for which the signs before it were told already.
func (p *Part) putWhole(v api.Value) {
	p.spot = Spot{around: within(p.spot.around), behind: true}
	p.last().put(v)
}

// sign adds a sign between two.
func (p *Part) sign(kind int) {
	c := p.last()
	c.links = p.settle(c.links, kinds[kind].strength)
	c.kind = kind
	p.spot.behind = false
}

func (p *Part) last() *chain { return &p.open[len(p.open)-1] }

// Join adds the tokens of q, that must be from p's Spot on, with the same equs.
func (p *Part) Join(q *Part) {
	if p.err != api.OK {
		return
	}
	for _, c := range q.closed {
		p.extend(c)
		p.end()
	}
	p.extend(q.open[0])
	for _, c := range q.open[1:] {
		c.links = slices.Clone(c.links)
		p.open = append(p.open, c)
	}
	p.spot, p.err = q.spot, q.err
	p.unfit = p.unfit || q.unfit
}

// extend adds what c is to the last chain.
func (p *Part) extend(c chain) {
	if c.begun {
		p.putWhole(c.first)
	}
	for _, x := range c.links {
		p.sign(x.kind)
		p.putWhole(x.right)
	}
	if c.kind != 0 {
		p.sign(c.kind)
	}
}
