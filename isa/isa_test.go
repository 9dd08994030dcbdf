package isa_test

import (
	"math"
	"strings"
	"testing"

	"platelayer/api"
	"platelayer/isa"
)

// pattern is an op as the document's chapter writes it, so that the tests don't lean on the program's own tables.
type pattern struct {
	op    int
	name  string
	shape int
	bits  string
}

var patterns = []pattern{
	{api.OpNop, "nop", api.ShapeNone, "0000000000001001"},
	{api.OpRts, "rts", api.ShapeNone, "0000000000001011"},
	{api.OpMovI, "mov", api.ShapeImm, "1110nnnniiiiiiii"},
	{api.OpAddI, "add", api.ShapeImm, "0111nnnniiiiiiii"},
	{api.OpMov, "mov", api.ShapeTwo, "0110nnnnmmmm0011"},
	{api.OpAdd, "add", api.ShapeTwo, "0011nnnnmmmm1100"},
	{api.OpSub, "sub", api.ShapeTwo, "0011nnnnmmmm1000"},
	{api.OpAnd, "and", api.ShapeTwo, "0010nnnnmmmm1001"},
	{api.OpOr, "or", api.ShapeTwo, "0010nnnnmmmm1011"},
	{api.OpXor, "xor", api.ShapeTwo, "0010nnnnmmmm1010"},
	{api.OpTst, "tst", api.ShapeTwo, "0010nnnnmmmm1000"},
	{api.OpEq, "cmp/eq", api.ShapeTwo, "0011nnnnmmmm0000"},
	{api.OpGt, "cmp/gt", api.ShapeTwo, "0011nnnnmmmm0111"},
	{api.OpShll, "shll", api.ShapeOne, "0100nnnn00000000"},
	{api.OpShlr, "shlr", api.ShapeOne, "0100nnnn00000001"},
	{api.OpDt, "dt", api.ShapeOne, "0100nnnn00010000"},
	{api.OpBt, "bt", api.ShapeNear, "10001001iiiiiiii"},
	{api.OpBf, "bf", api.ShapeNear, "10001011iiiiiiii"},
	{api.OpBra, "bra", api.ShapeFar, "1010iiiiiiiiiiii"},
	{api.OpBsr, "bsr", api.ShapeFar, "1011iiiiiiiiiiii"},
	{api.OpJmp, "jmp", api.ShapeAt, "0100nnnn00101011"},
	{api.OpJsr, "jsr", api.ShapeAt, "0100nnnn00001011"},
	{api.OpLoadW, "mov.w", api.ShapeWord, "1001nnnniiiiiiii"},
	{api.OpLoadL, "mov.l", api.ShapeLong, "1101nnnniiiiiiii"},
	{api.OpPut, "mov.l", api.ShapeTo, "0010nnnnmmmm0010"},
	{api.OpGet, "mov.l", api.ShapeFrom, "0110nnnnmmmm0010"},
	{api.OpTrap, "trapa", api.ShapeNumber, "11000011iiiiiiii"},
}

// ranges as the document's chapter writes them; a shape that is not here has 0 and 0.
var ranges = map[int][2]int{
	api.ShapeImm:    {-128, 127},
	api.ShapeNear:   {-128, 127},
	api.ShapeFar:    {-2048, 2047},
	api.ShapeWord:   {0, 255},
	api.ShapeLong:   {0, 255},
	api.ShapeNumber: {0, 255},
}

// noOps and noShapes are numbers that stand for nothing.
var (
	noOps    = []int{0, -1, 28, 256, math.MinInt, math.MaxInt}
	noShapes = []int{-1, 12, 256, math.MinInt, math.MaxInt}
)

// has tells whether a pattern has a letter: n, m or i.
func (p pattern) has(letter string) bool {
	return strings.Contains(p.bits, letter)
}

// greatest is the greatest register that a pattern takes.
func (p pattern) greatest(letter string) int {
	if p.has(letter) {
		return 15
	}
	return 0
}

// write fills a pattern bit by bit, from the lowest one up.
func (p pattern) write(i api.Instr) int {
	left := map[byte]int{'n': i.N, 'm': i.M, 'i': i.Imm}
	w := 0
	for k := range 16 {
		c := p.bits[15-k]
		bit := int(c) & 1
		if c != '0' && c != '1' {
			bit = left[c] & 1
			left[c] >>= 1
		}
		w |= bit << k
	}
	return w
}

// each goes through all instructions that a pattern has.
func (p pattern) each(do func(i api.Instr)) {
	r := ranges[p.shape]
	for n := range p.greatest("n") + 1 {
		for m := range p.greatest("m") + 1 {
			for imm := r[0]; imm <= r[1]; imm++ {
				do(api.Instr{Op: p.op, N: n, M: m, Imm: imm})
			}
		}
	}
}

func TestA1InfoTellsNameAndShape(t *testing.T) {
	for k, p := range patterns {
		if p.op != k+1 {
			t.Fatalf("%s is op %d, not %d: the patterns are not in api's order", p.name, p.op, k+1)
		}
		name, shape := isa.Info(p.op)
		if name != p.name || shape != p.shape {
			t.Errorf("Info(%d) is %q, %d, not %q, %d", p.op, name, shape, p.name, p.shape)
		}
	}
	for _, op := range noOps {
		if name, shape := isa.Info(op); name != "" || shape != 0 {
			t.Errorf("Info(%d) is %q, %d: there is no such op", op, name, shape)
		}
	}
}

func TestA1FindTellsTheOp(t *testing.T) {
	names := map[string]bool{"": true, "no": true, "nopp": true, "NOP": true, "mov.": true, "mov.b": true, " nop": true, "cmp": true, "\x00": true}
	want := map[pattern]int{}
	for _, p := range patterns {
		names[p.name] = true
		want[pattern{name: p.name, shape: p.shape}] = p.op
	}
	shapes := append([]int{}, noShapes...)
	for shape := range 12 {
		shapes = append(shapes, shape)
	}
	for name := range names {
		for _, shape := range shapes {
			if got := isa.Find(name, shape); got != want[pattern{name: name, shape: shape}] {
				t.Errorf("Find(%q, %d) is %d", name, shape, got)
			}
		}
	}
}

func TestA1RangeOfShapes(t *testing.T) {
	shapes := append([]int{}, noShapes...)
	for shape := range 12 {
		shapes = append(shapes, shape)
	}
	for _, shape := range shapes {
		low, high := isa.Range(shape)
		if want := ranges[shape]; low != want[0] || high != want[1] {
			t.Errorf("Range(%d) is %d, %d, not %d, %d", shape, low, high, want[0], want[1])
		}
	}
}

func TestA2EncodeFillsTheBits(t *testing.T) {
	for _, p := range patterns {
		p.each(func(i api.Instr) {
			if err := isa.Wrong(i); err != api.OK {
				t.Fatalf("Wrong(%v) is %d", i, err)
			}
			if w, err := isa.Encode(i); w != p.write(i) || err != api.OK {
				t.Fatalf("Encode(%v) is %04x, %d, not %04x", i, w, err, p.write(i))
			}
		})
	}
}

func TestA2EncodeExample(t *testing.T) {
	w, err := isa.Encode(api.Instr{Op: api.OpAdd, N: 1, M: 2})
	if w != 0x312c || err != api.OK {
		t.Errorf("add r2,r1 is %04x, %d, not 312c", w, err)
	}
}

func TestA2DecodeReadsAllHalfWords(t *testing.T) {
	want := map[int]api.Instr{}
	for _, p := range patterns {
		p.each(func(i api.Instr) { want[p.write(i)] = i })
	}
	for w := range 65536 {
		wanted, ok := want[w]
		err := api.OK
		if !ok {
			err = api.ErrBad
		}
		if i, e := isa.Decode(w); i != wanted || e != err {
			t.Errorf("Decode(%04x) is %v, %d, not %v, %d", w, i, e, wanted, err)
		}
	}
}

func TestA2DecodeOfNoHalfWord(t *testing.T) {
	// Some of these have an op's bits lowest, which must not count.
	for _, w := range []int{-1, 65536, 65536 + 9, -65536 + 9, math.MinInt, math.MaxInt, math.MinInt + 9} {
		if i, err := isa.Decode(w); i != (api.Instr{}) || err != api.ErrRange {
			t.Errorf("Decode(%d) is %v, %d", w, i, err)
		}
	}
}

// wrong checks that an instruction is refused, with nothing beside the error.
func wrong(t *testing.T, i api.Instr, want api.Errno) {
	t.Helper()
	if err := isa.Wrong(i); err != want {
		t.Errorf("Wrong(%v) is %d, not %d", i, err, want)
	}
	if w, err := isa.Encode(i); w != 0 || err != want {
		t.Errorf("Encode(%v) is %04x, %d, not 0, %d", i, w, err, want)
	}
}

func TestA2NoSuchOp(t *testing.T) {
	for _, op := range noOps {
		wrong(t, api.Instr{Op: op}, api.ErrKind)
		wrong(t, api.Instr{Op: op, N: 16, M: -1, Imm: 5000}, api.ErrKind)
	}
}

func TestA2OutOfRange(t *testing.T) {
	for _, p := range patterns {
		r := ranges[p.shape]
		right := api.Instr{Op: p.op, N: p.greatest("n"), M: p.greatest("m"), Imm: r[1]}
		for _, n := range []int{-1, p.greatest("n") + 1, 16, 256, math.MinInt, math.MaxInt} {
			i := right
			i.N = n
			wrong(t, i, api.ErrRange)
		}
		for _, m := range []int{-1, p.greatest("m") + 1, 16, 256, math.MinInt, math.MaxInt} {
			i := right
			i.M = m
			wrong(t, i, api.ErrRange)
		}
		for _, imm := range []int{r[0] - 1, r[1] + 1, -65536, 65536, math.MinInt, math.MaxInt} {
			i := right
			i.Imm = imm
			wrong(t, i, api.ErrRange)
		}
	}
}
