package asm

import (
	"strings"

	"platelayer/api"
	"platelayer/isa"
)

// The load that is told by its value, and not by a place.
const (
	poolName = "mov.l"
	poolForm = ofPool + ofRegister
)

// forms are the kinds of operands of each shape.
var forms = [...]struct {
	kinds string
	shape int
}{
	{"", api.ShapeNone},
	{ofNumber + ofRegister, api.ShapeImm},
	{ofRegister + ofRegister, api.ShapeTwo},
	{ofRegister, api.ShapeOne},
	{ofPlace, api.ShapeNear},
	{ofPlace, api.ShapeFar},
	{ofAt, api.ShapeAt},
	{ofPlace + ofRegister, api.ShapeWord},
	{ofPlace + ofRegister, api.ShapeLong},
	{ofRegister + ofAt, api.ShapeTo},
	{ofAt + ofRegister, api.ShapeFrom},
	{ofNumber, api.ShapeNumber},
}

// statement keeps what a word and its operands stand for.
func (u *unit) statement(name string, l []operand) api.Errno {
	switch name {
	case ".byte":
		return u.numbers(1, l)
	case ".word":
		return u.numbers(2, l)
	case ".long":
		return u.numbers(4, l)
	case ".align":
		return u.align(l)
	case ".pool":
		if len(l) > 0 {
			return api.ErrForm
		}
		u.endPool()
		return api.OK
	}
	return u.instruction(name, l)
}

// numbers keeps the numbers of .byte, .word or .long.
func (u *unit) numbers(size int, l []operand) api.Errno {
	if len(l) == 0 {
		return api.ErrForm
	}
	for _, o := range l {
		place := o.value.Name != ""
		switch {
		case o.kind != ofPlace:
			return api.ErrForm
		case place && size == 1:
			return api.ErrFit
		case !place && !fits(o.value.N, 8*size):
			return api.ErrRange
		}
		u.add(u.number(size, o.value))
	}
	return api.OK
}

// fits answers whether so many bits are enough for n, with a sign or without.
func fits(n, bits int) bool { return -1<<(bits-1) <= n && n < 1<<bits }

func (u *unit) align(l []operand) api.Errno {
	if len(l) != 1 || l[0].kind != ofPlace || l[0].value.Name != "" {
		return api.ErrForm
	}
	switch n := l[0].value.N; n {
	case 1, 2, 4, 8, 16:
		u.add(noughts(n))
		return api.OK
	}
	return api.ErrRange
}

func (u *unit) instruction(name string, l []operand) api.Errno {
	form := formOf(l)
	if name == poolName && form == poolForm {
		u.add(u.leading(api.Instr{Op: api.OpLoadL, N: l[1].register}, u.ask(l[0].value)))
		return api.OK
	}
	op := find(name, form)
	if op == 0 {
		return api.ErrKind
	}
	i, err := filled(op, l)
	switch {
	case err != api.OK:
		return err
	case strings.HasPrefix(form, ofPlace):
		u.add(u.leading(i, func() (int, api.Errno) { return u.placeOf(l[0].value) }))
	default:
		u.add(plain(i))
	}
	return api.OK
}

// formOf answers the kinds of operands, one behind the other.
func formOf(l []operand) string {
	var out strings.Builder
	for _, o := range l {
		out.WriteString(o.kind)
	}
	return out.String()
}

// find answers the op of that name whose operands are of these kinds: 0, if there is none.
func find(name, form string) int {
	for _, f := range forms {
		if f.kinds != form {
			continue
		}
		if op := isa.Find(name, f.shape); op != 0 {
			return op
		}
	}
	return 0
}

// filled answers the instruction with its operands, but places.
func filled(op int, l []operand) (api.Instr, api.Errno) {
	i := api.Instr{Op: op}
	for _, o := range l {
		switch {
		case o.kind == ofNumber && o.value.Name != "":
			return api.Instr{}, api.ErrFit
		case o.kind == ofNumber:
			i.Imm = o.value.N
		case o.kind != ofPlace:
			// The last register is N, whichever shape it is, and the one ahead of it M.
			i.M, i.N = i.N, o.register
		}
	}
	return i, isa.Wrong(i)
}
