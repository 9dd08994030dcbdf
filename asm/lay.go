package asm

import (
	"platelayer/api"
	"platelayer/isa"
)

const (
	halfWord = 2 // bytes of an instruction
	word     = 4
	long     = 6 // bytes of a branch that leads far
)

// ahead is how far behind itself an instruction leads with number 0.
const ahead = 4

// item is something that has bytes.
type item struct {
	line  int // whose fault it is, if something is wrong with it
	size  int // how many bytes it has, noughts up to a multiple not counted
	upTo  int // the multiple that noughts fill it up to
	align int // the multiple that it must stand at
	// far, if there is one, answers whether an item of that place must be long.
	far func(at int) bool
	// bytes answers those of an item of that place that has so many.
	bytes func(at, size int) ([]byte, api.Errno)
}

// add adds what the line that is read stands for.
func (u *unit) add(x item) {
	x.line = u.line
	u.items = append(u.items, x)
}

// lay tells all places, and makes branches long that must be: ErrMuch, if all is too much.
func (u *unit) lay() api.Errno {
	u.places = make([]int, len(u.items)+1)
	for {
		u.tell()
		if u.places[len(u.items)] > api.MaxCode {
			return api.ErrMuch
		}
		if !u.lengthen() {
			return api.OK
		}
	}
}

// tell tells where each item begins, and where the last one ends.
func (u *unit) tell() {
	at := 0
	for i, x := range u.items {
		u.places[i] = at
		at += x.size + (x.upTo-at%x.upTo)%x.upTo
	}
	u.places[len(u.items)] = at
}

// lengthen makes all branches long that must be by the places that are told, and answers whether there are such.
func (u *unit) lengthen() bool {
	more := false
	for i, x := range u.items {
		if x.far != nil && x.size < long && x.far(u.places[i]) {
			u.items[i].size = long
			more = true
		}
	}
	return more
}

// placeOf answers where a value is: ErrFit, if it is a number; ErrNone, if its name is no label.
func (u *unit) placeOf(v api.Value) (int, api.Errno) {
	if v.Name == "" {
		return 0, api.ErrFit
	}
	i, ok := u.labels[v.Name]
	if !ok {
		return 0, api.ErrNone
	}
	return u.places[i] + v.N, api.OK
}

// away answers how many bytes it is to a place from where an instruction of that shape leads from, and how many of them its number counts as one.
func away(shape, at, to int) (int, int) {
	from := at + ahead
	if shape == api.ShapeLong {
		return to - (from - from%word), word
	}
	return to - from, halfWord
}

// near answers whether a branch of that place may be short.
func near(at, to int) bool {
	low, high := isa.Range(api.ShapeNear)
	n, step := away(api.ShapeNear, at, to)
	return low*step <= n && n <= high*step
}
