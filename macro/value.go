package macro

import (
	"platelayer/api"
	"platelayer/expr"
)

// place is where an inner text stands in an expression.
type place struct {
	inner *inner
	spot  expr.Spot
}

// reading is a text of which a part is read, what that does to an expression, and where the text stands.
type reading struct {
	rest Text
	part *expr.Part
	at   place
}

// First answers what the expression is that l begins with, as long as may be, and whether that is all of l.
func (l Text) First(equs []api.Equ) (api.Value, bool, api.Errno) {
	p := l.expression(equs)
	v, err := p.First()
	return v, err == api.OK && p.Err() == api.OK, err
}

// expression answers what l is as one. What an inner text does to it is told once for all places of one kind: an expression
// may have more tokens than there is time for. Those within others lie in a list, as they may be more than calls can be within one another.
func (l Text) expression(equs []api.Equ) *expr.Part {
	known := map[place]*expr.Part{}
	open := []reading{{rest: l, part: expr.From(expr.Spot{}, equs)}}
	for {
		last := len(open) - 1
		r := &open[last]
		switch {
		case last == 0 && r.read():
			return r.part
		case r.read():
			known[r.at] = r.part
			open = open[:last]
		case r.rest[0].inner == nil:
			r.part.Add(r.rest[0].token)
			r.rest = r.rest[1:]
		default:
			at := place{inner: r.rest[0].inner, spot: r.part.Spot()}
			if q := known[at]; q != nil {
				r.part.Join(q)
				r.rest = r.rest[1:]
				continue
			}
			open = append(open, reading{rest: at.inner.parts(), part: expr.From(at.spot, equs), at: at})
		}
	}
}

// read answers whether no more has to be read.
func (r *reading) read() bool { return len(r.rest) == 0 || r.part.Err() != api.OK }
