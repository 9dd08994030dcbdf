// Package isa has instructions as half words: see doc/01-isa.md.
package isa

import "platelayer/api"

// operation is how an op is written: its name, its shape, and the bits that no operand fills.
type operation struct {
	name  string
	shape int
	bits  int
}

// operations by op; there is none of number 0.
var operations = [...]operation{
	api.OpNop:   {"nop", api.ShapeNone, 0x0009},
	api.OpRts:   {"rts", api.ShapeNone, 0x000b},
	api.OpMovI:  {"mov", api.ShapeImm, 0xe000},
	api.OpAddI:  {"add", api.ShapeImm, 0x7000},
	api.OpMov:   {"mov", api.ShapeTwo, 0x6003},
	api.OpAdd:   {"add", api.ShapeTwo, 0x300c},
	api.OpSub:   {"sub", api.ShapeTwo, 0x3008},
	api.OpAnd:   {"and", api.ShapeTwo, 0x2009},
	api.OpOr:    {"or", api.ShapeTwo, 0x200b},
	api.OpXor:   {"xor", api.ShapeTwo, 0x200a},
	api.OpTst:   {"tst", api.ShapeTwo, 0x2008},
	api.OpEq:    {"cmp/eq", api.ShapeTwo, 0x3000},
	api.OpGt:    {"cmp/gt", api.ShapeTwo, 0x3007},
	api.OpShll:  {"shll", api.ShapeOne, 0x4000},
	api.OpShlr:  {"shlr", api.ShapeOne, 0x4001},
	api.OpDt:    {"dt", api.ShapeOne, 0x4010},
	api.OpBt:    {"bt", api.ShapeNear, 0x8900},
	api.OpBf:    {"bf", api.ShapeNear, 0x8b00},
	api.OpBra:   {"bra", api.ShapeFar, 0xa000},
	api.OpBsr:   {"bsr", api.ShapeFar, 0xb000},
	api.OpJmp:   {"jmp", api.ShapeAt, 0x402b},
	api.OpJsr:   {"jsr", api.ShapeAt, 0x400b},
	api.OpLoadW: {"mov.w", api.ShapeWord, 0x9000},
	api.OpLoadL: {"mov.l", api.ShapeLong, 0xd000},
	api.OpPut:   {"mov.l", api.ShapeTo, 0x2002},
	api.OpGet:   {"mov.l", api.ShapeFrom, 0x6002},
	api.OpTrap:  {"trapa", api.ShapeNumber, 0xc300},
}

// layout is what a shape leaves to its operands: the greatest registers N and M (0: it has none), and the number's range.
type layout struct {
	n, m      int
	low, high int
}

var layouts = [...]layout{
	api.ShapeNone:   {},
	api.ShapeImm:    {n: 15, low: -128, high: 127},
	api.ShapeTwo:    {n: 15, m: 15},
	api.ShapeOne:    {n: 15},
	api.ShapeNear:   {low: -128, high: 127},
	api.ShapeFar:    {low: -2048, high: 2047},
	api.ShapeAt:     {n: 15},
	api.ShapeWord:   {n: 15, high: 255},
	api.ShapeLong:   {n: 15, high: 255},
	api.ShapeTo:     {n: 15, m: 15},
	api.ShapeFrom:   {n: 15, m: 15},
	api.ShapeNumber: {high: 255},
}

// Where the registers stand in a half word; the number stands lowest.
const (
	shiftN = 8
	shiftM = 4
)

// Info answers an op's name and shape: empty and 0, if there is no such op.
func Info(op int) (string, int) {
	if !known(op) {
		return "", 0
	}
	return operations[op].name, operations[op].shape
}

// Find answers the op of that name and shape: 0, if there is none.
func Find(name string, shape int) int {
	for op, o := range operations {
		if known(op) && o.name == name && o.shape == shape {
			return op
		}
	}
	return 0
}

// Range answers the least and the greatest number of a shape: 0 and 0, if it has none.
func Range(shape int) (int, int) {
	l := layoutOf(shape)
	return l.low, l.high
}

// Wrong answers what is wrong with an instruction, or OK.
func Wrong(i api.Instr) api.Errno {
	if !known(i.Op) {
		return api.ErrKind
	}
	l := layoutOf(operations[i.Op].shape)
	if !within(i.N, 0, l.n) || !within(i.M, 0, l.m) || !within(i.Imm, l.low, l.high) {
		return api.ErrRange
	}
	return api.OK
}

// Encode answers an instruction's half word, or what is Wrong with it.
func Encode(i api.Instr) (int, api.Errno) {
	if err := Wrong(i); err != api.OK {
		return 0, err
	}
	o := operations[i.Op]
	return o.bits | i.N<<shiftN | i.M<<shiftM | i.Imm&layoutOf(o.shape).number(), api.OK
}

// Decode answers the instruction of a half word: ErrRange, if w is none; ErrBad, if no op is written so.
func Decode(w int) (api.Instr, api.Errno) {
	if !within(w, 0, 0xffff) {
		return api.Instr{}, api.ErrRange
	}
	for op, o := range operations {
		if l := layoutOf(o.shape); known(op) && w&^l.operands() == o.bits {
			return l.read(op, w), api.OK
		}
	}
	return api.Instr{}, api.ErrBad
}

func known(op int) bool {
	return within(op, api.OpNop, len(operations)-1)
}

func within(n, low, high int) bool {
	return low <= n && n <= high
}

func layoutOf(shape int) layout {
	if !within(shape, 0, len(layouts)-1) {
		return layout{}
	}
	return layouts[shape]
}

// number answers the number's bits: every range has as many numbers as its bits tell apart, so that its width is their mask.
func (l layout) number() int {
	return l.high - l.low
}

// operands answers all bits that operands fill.
func (l layout) operands() int {
	return l.n<<shiftN | l.m<<shiftM | l.number()
}

// read answers the instruction of a half word that is this op's.
func (l layout) read(op, w int) api.Instr {
	imm := w & l.number()
	if imm > l.high {
		imm -= l.number() + 1
	}
	return api.Instr{Op: op, N: w >> shiftN & l.n, M: w >> shiftM & l.m, Imm: imm}
}
