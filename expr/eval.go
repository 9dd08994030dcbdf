package expr

import (
	"slices"

	"platelayer/api"
	"platelayer/isa"
)

// lowFive are the bits of a number that say how far another one is moved.
const lowFive = 31

// Eval answers what e is: a number, or a place and so much more.
func Eval(e api.Expr, l []api.Equ) (api.Value, api.Errno) {
	kids := make([]api.Value, len(e.Kids))
	for i, kid := range e.Kids {
		v, err := Eval(kid, l)
		if err != api.OK {
			return api.Value{}, err
		}
		kids[i] = v
	}
	switch {
	case !whole(e):
		return api.Value{}, api.ErrKind
	case len(kids) == 2:
		return ofTwo(e.Kind, kids[0], kids[1])
	case len(kids) == 1:
		return ofOne(e.Kind, kids[0])
	case e.Kind == api.ExName:
		return named(e.Name, l), api.OK
	}
	return number(e.N), api.OK
}

func number(n int) api.Value { return api.Value{N: isa.Signed(n)} }

// named answers the number that a name is, or the place.
func named(name string, l []api.Equ) api.Value {
	i := slices.IndexFunc(l, func(q api.Equ) bool { return q.Name == name })
	if i < 0 {
		return api.Value{Name: name}
	}
	return number(l[i].N)
}

func ofOne(kind int, v api.Value) (api.Value, api.Errno) {
	switch {
	case v.Name != "":
		return api.Value{}, api.ErrFit
	case kind == api.ExNeg:
		return number(-v.N), api.OK
	}
	return number(^v.N), api.OK
}

func ofTwo(kind int, a, b api.Value) (api.Value, api.Errno) {
	name, ok := place(kind, a.Name, b.Name)
	if !ok {
		return api.Value{}, api.ErrFit
	}
	return api.Value{Name: name, N: isa.Signed(count(kind, a.N, b.N))}, api.OK
}

// place answers the name of what comes of two (empty, of a number), and whether the two go together.
func place(kind int, a, b string) (string, bool) {
	switch {
	case a == "" && b == "":
		return "", true
	case kind == api.ExAdd && a == "":
		return b, true
	case (kind == api.ExAdd || kind == api.ExSub) && b == "":
		return a, true
	case kind == api.ExSub && a == b:
		return "", true
	}
	return "", false
}

// count answers what comes of two numbers, perhaps with more than 32 bits.
func count(kind, a, b int) int {
	switch kind {
	case api.ExMul:
		return a * b
	case api.ExAdd:
		return a + b
	case api.ExSub:
		return a - b
	case api.ExLeft:
		return a << (b & lowFive)
	case api.ExRight:
		return int(uint32(a) >> (b & lowFive))
	case api.ExAnd:
		return a & b
	}
	return a | b
}
