package expr

import (
	"math/bits"

	"platelayer/api"
)

// maxRun is how many links of one strength stay, at most, where what is to the left of them is not known.
const maxRun = 3

// link is a sign between two, and what is to the right of it.
type link struct {
	kind  int
	right api.Value
}

// chain is what stands in one bracket: something, and links behind it.
type chain struct {
	begun bool // whether it is known what it begins with
	first api.Value
	links []link
	kind  int // of a sign that has nothing to the right of it yet, or 0
}

// put puts v behind the last sign, or at the beginning.
func (c *chain) put(v api.Value) {
	if c.kind == 0 {
		c.begun, c.first = true, v
		return
	}
	c.links = append(c.links, link{kind: c.kind, right: v})
	c.kind = 0
}

// total answers what all of a chain is.
func (p *Part) total(c chain) api.Value {
	all := []link{{right: c.first}}
	for _, x := range c.links {
		all = append(p.fold(all, x.strength()), x)
	}
	return p.fold(all, weakest)[0].right
}

func (x link) strength() int { return kinds[x.kind].strength }

// fold does links at the end that bind more than those to the left of them, and no less than a sign of that strength behind them.
func (p *Part) fold(l []link, strength int) []link {
	for n := len(l); n > 1; n-- {
		left, last := &l[n-2], l[n-1]
		if last.strength() < strength || last.strength() <= left.strength() {
			break
		}
		left.right = p.two(last.kind, left.right, last.right)
		l = l[:n-1]
	}
	return l
}

func (p *Part) two(kind int, a, b api.Value) api.Value {
	v, err := ofTwo(kind, a, b)
	p.unfit = p.unfit || err != api.OK
	return v
}

// settle folds links, and makes those at the end that are of one strength few, before a sign of that strength comes.
func (p *Part) settle(l []link, strength int) []link {
	l = p.fold(l, strength)
	from := len(l)
	for from > 0 && l[from-1].strength() >= strength && l[from-1].strength() == l[len(l)-1].strength() {
		from--
	}
	if len(l)-from > maxRun {
		l = append(l[:from], p.shorten(l[from:])...)
	}
	return l
}

// shorten answers at most maxRun links that do, to whatever is to the left of them, what a run of links of one strength does.
func (p *Part) shorten(run []link) []link {
	switch run[0].strength() {
	case ofSums:
		return p.sum(run)
	case ofShifts:
		return p.shift(run)
	}
	v := run[0].right
	for _, x := range run[1:] {
		v = p.two(x.kind, v, x.right)
	}
	return []link{{kind: run[0].kind, right: v}}
}

// sum shortens a run of + and -. A place may be added to numbers alone, and be taken from itself alone: that stays to be
// seen of the first place, and which one is there behind the last.
func (p *Part) sum(run []link) []link {
	n := 0
	var places []link
	for _, x := range run {
		n = count(x.kind, n, x.right.N)
		if x.right.Name == "" {
			continue
		}
		x.right.N = 0
		if len(places) > 0 && !follows(places[len(places)-1], x) {
			p.unfit = true
		}
		switch {
		case len(places) < 2:
			places = append(places, x)
		case x.kind == api.ExSub:
			places = places[:1]
		default:
			places = []link{x}
		}
	}
	return append(places, link{kind: api.ExAdd, right: number(n)})
}

// follows answers whether a place may be added, or taken away, right behind another one.
func follows(before, x link) bool {
	if before.kind == api.ExSub {
		return x.kind == api.ExAdd
	}
	return x.kind == api.ExSub && x.right.Name == before.right.Name
}

// shift shortens a run of << and >>: of 32 bits those stay that are not moved out, and all are as far from where they were. Of how far
// that is the lowest five bits are right, and no more of them count.
func (p *Part) shift(run []link) []link {
	stay, far := number(-1), 0
	for _, x := range run {
		stay = p.two(x.kind, stay, x.right)
		if x.kind == api.ExLeft {
			far += x.right.N
		} else {
			far -= x.right.N
		}
	}
	word := uint32(stay.N)
	if word == 0 {
		return []link{{kind: api.ExLeft, right: number(lowFive)}, {kind: api.ExLeft, right: number(1)}}
	}
	above, below := bits.LeadingZeros32(word), bits.TrailingZeros32(word)
	return []link{
		{kind: api.ExLeft, right: number(above + far)},
		{kind: api.ExRight, right: number(above + below)},
		{kind: api.ExLeft, right: number(below)},
	}
}
