package sim_test

import (
	"fmt"
	"math/rand/v2"
	"slices"
	"strconv"
	"strings"
	"sync"
	"testing"

	"platelayer/api"
	"platelayer/sim"
)

// forms are the bits of each instruction as the document's chapter writes them, and a name of its own.
var forms = [][2]string{
	{"0000000000001001", "nop"},
	{"0000000000001011", "rts"},
	{"1110nnnniiiiiiii", "mov #"},
	{"0111nnnniiiiiiii", "add #"},
	{"0110nnnnmmmm0011", "mov"},
	{"0011nnnnmmmm1100", "add"},
	{"0011nnnnmmmm1000", "sub"},
	{"0010nnnnmmmm1001", "and"},
	{"0010nnnnmmmm1011", "or"},
	{"0010nnnnmmmm1010", "xor"},
	{"0010nnnnmmmm1000", "tst"},
	{"0011nnnnmmmm0000", "cmp/eq"},
	{"0011nnnnmmmm0111", "cmp/gt"},
	{"0100nnnn00000000", "shll"},
	{"0100nnnn00000001", "shlr"},
	{"0100nnnn00010000", "dt"},
	{"10001001iiiiiiii", "bt"},
	{"10001011iiiiiiii", "bf"},
	{"1010iiiiiiiiiiii", "bra"},
	{"1011iiiiiiiiiiii", "bsr"},
	{"0100nnnn00101011", "jmp"},
	{"0100nnnn00001011", "jsr"},
	{"1001nnnniiiiiiii", "mov.w"},
	{"1101nnnniiiiiiii", "mov.l"},
	{"0010nnnnmmmm0010", "put"},
	{"0110nnnnmmmm0010", "get"},
	{"11000011iiiiiiii", "trapa"},
}

// read is a half word as an instruction; its number with a sign, and without one.
type read struct {
	name            string
	n, m            int
	signed, without int
}

// fields answers the bits of w that stand where each letter does, if all others are as the form has them.
func fields(form string, w int) (map[rune]string, bool) {
	out := map[rune]string{}
	bits := fmt.Sprintf("%016b", w)
	for k, c := range form {
		switch bit := bits[k : k+1]; {
		case c >= 'a':
			out[c] += bit
		case bit != string(c):
			return nil, false
		}
	}
	return out, true
}

// unsigned reads bits; none of them are 0.
func unsigned(bits string) int {
	n, _ := strconv.ParseInt("0"+bits, 2, 64)
	return int(n)
}

// signed reads bits, of which the first one counts below 0.
func signed(bits string) int {
	n := unsigned(bits)
	if strings.HasPrefix(bits, "1") {
		n -= 1 << len(bits)
	}
	return n
}

// all is each half word that is an instruction, read bit by bit.
var all = sync.OnceValue(func() map[int]read {
	out := map[int]read{}
	for w := range 65536 {
		for _, form := range forms {
			if f, ok := fields(form[0], w); ok {
				out[w] = read{form[1], unsigned(f['n']), unsigned(f['m']), signed(f['i']), unsigned(f['i'])}
			}
		}
	}
	return out
})

// plain is a machine whose registers are bits, and which has noughts from place 0 up to where its image begins.
type plain struct {
	r      [16]uint32
	t      bool
	pc, pr int32
	base   int
	mem    []byte
	told   []int
	steps  int
}

func plainOf(m api.Machine) *plain {
	p := &plain{t: m.T, pc: int32(m.PC), pr: int32(m.PR), base: m.Image.Base, told: slices.Clone(m.Told), steps: m.Steps}
	for k, n := range m.R {
		p.r[k] = uint32(n)
	}
	p.mem = append(make([]byte, p.base), m.Image.Bytes...)
	return p
}

// machine answers it as one of the program's.
func (p *plain) machine(syms []api.Sym) api.Machine {
	m := api.Machine{T: p.t, PC: int(p.pc), PR: int(p.pr), Told: p.told, Steps: p.steps}
	for k, n := range p.r {
		m.R[k] = int(int32(n))
	}
	m.Image = api.Image{Base: p.base, Bytes: p.mem[p.base:], Syms: syms}
	return m
}

// bytes answers those at a place, or what is wrong.
func (p *plain) bytes(at, size int, wrong api.Errno) []byte {
	for k := range size {
		if at%size != 0 || at+k < p.base || at+k >= len(p.mem) {
			panic(wrong)
		}
	}
	return p.mem[at : at+size]
}

func (p *plain) instruction(at int) read {
	b := p.bytes(at, 2, api.ErrNone)
	x, ok := all()[256*int(b[0])+int(b[1])]
	if !ok {
		panic(api.ErrBad)
	}
	return x
}

// step does what the chapter says, and panics with an error; true is the end.
func (p *plain) step() bool {
	at := int(p.pc)
	x := p.instruction(at)
	p.steps++
	var to int
	switch x.name {
	case "trapa":
		if x.without == 0 {
			return true
		}
		p.told = append(p.told, int(int32(p.r[0])))
		p.pc += 2
		return false
	case "bt", "bf":
		p.pc += 2
		if p.t == (x.name == "bt") {
			p.pc = int32(at + 4 + 2*x.signed)
		}
		return false
	case "rts":
		to = int(p.pr)
	case "bra", "bsr":
		to = at + 4 + 2*x.signed
	case "jmp", "jsr":
		to = int(int32(p.r[x.n]))
	default:
		p.do(x, at)
		p.pc += 2
		return false
	}
	if x.name == "bsr" || x.name == "jsr" {
		p.pr = int32(at + 4)
	}
	behind := p.instruction(at + 2)
	if slices.Contains([]string{"rts", "bt", "bf", "bra", "bsr", "jmp", "jsr", "trapa"}, behind.name) {
		panic(api.ErrFit)
	}
	p.do(behind, at+2)
	p.pc = int32(to)
	return false
}

// do does what neither leads elsewhere nor tells.
func (p *plain) do(x read, at int) {
	n, m := &p.r[x.n], p.r[x.m]
	was := *n
	switch x.name {
	case "nop":
	case "mov #":
		*n = uint32(x.signed)
	case "add #":
		*n = was + uint32(x.signed)
	case "mov":
		*n = m
	case "add":
		*n = was + m
	case "sub":
		*n = was - m
	case "and":
		*n = was & m
	case "or":
		*n = was | m
	case "xor":
		*n = was ^ m
	case "tst":
		p.t = was&m == 0
	case "cmp/eq":
		p.t = was == m
	case "cmp/gt":
		p.t = int32(was) > int32(m)
	case "shll":
		*n, p.t = was<<1, was>>31 == 1
	case "shlr":
		*n, p.t = was>>1, was%2 == 1
	case "dt":
		*n, p.t = was-1, was == 1
	case "mov.w":
		b := p.bytes(at+4+2*x.without, 2, api.ErrRange)
		*n = uint32(int8(b[0]))<<8 | uint32(b[1])
	case "mov.l":
		*n = joined(p.bytes((at+4)/4*4+4*x.without, 4, api.ErrRange))
	case "get":
		*n = joined(p.bytes(int(int32(m)), 4, api.ErrRange))
	case "put":
		to := int(int32(was))
		for k := range p.bytes(to, 4, api.ErrRange) {
			p.mem[to+k] = byte(m >> (24 - 8*k))
		}
	default:
		panic(x.name)
	}
}

func joined(b []byte) uint32 {
	return uint32(b[0])<<24 | uint32(b[1])<<16 | uint32(b[2])<<8 | uint32(b[3])
}

// try answers what comes of a step, or the error.
func (p *plain) try() (end bool, err api.Errno) {
	defer func() {
		if x := recover(); x != nil {
			err = x.(api.Errno)
		}
	}()
	return p.step(), api.OK
}

// stepped fails if Step answers something else than the plain machine does, and answers what that does.
func stepped(t *testing.T, m api.Machine) (api.Machine, bool, api.Errno) {
	t.Helper()
	p := plainOf(m)
	end, err := p.try()
	want := api.Machine{}
	if err == api.OK {
		want = p.machine(m.Image.Syms)
	}
	if got, e, r := sim.Step(m); !same(got, want) || e != end || r != err {
		t.Fatalf("Step(%.900v) is %.900v %v %d, not %.900v %v %d", m, got, e, r, want, end, err)
	}
	return want, end, err
}

// someNumber is one of those that sums and shifts have edges at, a place of the image, or any.
func someNumber(r *rand.Rand, i api.Image) int {
	switch r.IntN(4) {
	case 0:
		return []int{low, low + 1, -2, -1, 0, 1, 2, high - 1, high}[r.IntN(9)]
	case 1:
		return int(int32(r.Uint32()))
	}
	return i.Base + r.IntN(len(i.Bytes)+8) - 4
}

// someMachine has registers that lead into its image often.
func someMachine(r *rand.Rand, i api.Image) api.Machine {
	m := sim.New(i)
	m.T, m.PR = r.IntN(2) == 0, someNumber(r, i)
	for k := range m.R {
		if m.R[k] = someNumber(r, i); r.IntN(3) == 0 {
			m.R[k] &^= 3
		}
	}
	return m
}

func someBytes(r *rand.Rand, n int) []byte {
	b := make([]byte, n)
	for k := range b {
		b[k] = byte(r.Uint32())
	}
	return b
}

func TestI1AllHalfWords(t *testing.T) {
	r := rand.New(rand.NewPCG(9, 1))
	type kind struct {
		name   string
		behind bool
		err    api.Errno
	}
	seen := map[kind]int{}
	for w := range 65536 {
		for k := range 3 {
			i := api.Image{Base: r.IntN(30), Bytes: someBytes(r, 300), Syms: []api.Sym{{Name: "a", At: 3}}}
			m := someMachine(r, i)
			m.PC += m.PC%2 + 2*r.IntN(140)
			at := m.PC - i.Base
			// The third time it stands behind a branch.
			if k == 2 {
				copy(m.Image.Bytes[at:], words([]int{0x000b, 0xa000, 0xb7ff, 0x412b, 0x420b}[r.IntN(5)]))
				at += 2
			}
			copy(m.Image.Bytes[at:], words(w))
			// And behind it something that is right often.
			copy(m.Image.Bytes[at+2:], words([]int{0x0009, 0x7101, 0x4201, 0xffff, r.IntN(65536)}[r.IntN(5)]))
			_, _, err := stepped(t, m)
			seen[kind{all()[w].name, k == 2, err}]++
		}
	}
	// Each one was right, and those that can be wrong were.
	for _, form := range forms {
		if seen[kind{form[1], false, api.OK}] == 0 {
			t.Errorf("%s was never right", form[1])
		}
	}
	for _, s := range []string{"mov.w", "mov.l", "put", "get"} {
		for _, behind := range []bool{false, true} {
			right, wrong := seen[kind{s, behind, api.OK}], seen[kind{s, behind, api.ErrRange}]
			if right < 20 || wrong < 20 {
				t.Errorf("%s (behind a branch: %v) was right %d times, wrong %d times", s, behind, right, wrong)
			}
		}
	}
}

// someProgram is an image of which most half words are instructions that go on, and some lead to near places.
func someProgram(r *rand.Rand) api.Image {
	i := api.Image{Base: 2 * r.IntN(20)}
	regs := func() int { return r.IntN(4)<<8 | r.IntN(4)<<4 }
	for range 6 + r.IntN(30) {
		near := r.IntN(12) - 6
		w := 0
		switch r.IntN(12) {
		case 0:
			w = 0x8900 | r.IntN(2)<<9 | near&0xff
		case 1:
			w = 0xa000 | r.IntN(2)<<12 | near&0xfff
		case 2:
			w = []int{0x000b, 0x400b, 0x402b}[r.IntN(3)]
		case 3:
			w = 0x9000 | r.IntN(2)<<14 | r.IntN(4)<<8 | r.IntN(6)
		case 4:
			w = []int{0x2002, 0x6002}[r.IntN(2)] | regs()
		case 5:
			w = 0xc300 | r.IntN(4)
		case 6:
			w = []int{0x4000, 0x4001, 0x4010}[r.IntN(3)] | r.IntN(4)<<8
		case 7, 8:
			w = 0xe000 | r.IntN(4)<<8 | (i.Base+4*r.IntN(16))&0x7f
		case 9:
			w = 0x7000 | r.IntN(4)<<8 | r.IntN(256)
		default:
			w = []int{0x6003, 0x300c, 0x3008, 0x2009, 0x200b, 0x200a, 0x2008, 0x3000, 0x3007, 0x0009}[r.IntN(10)]
			if w != 0x0009 {
				w |= regs()
			}
		}
		i.Bytes = append(i.Bytes, words(w)...)
	}
	return i
}

func TestI2StepByStepAsAtOnce(t *testing.T) {
	r := rand.New(rand.NewPCG(9, 2))
	seen := map[api.Errno]int{}
	long := 0
	for range 20000 {
		i := someProgram(r)
		m := someMachine(r, i)
		most := r.IntN(40)
		want, err := api.Machine{}, api.ErrFuel
		x := m
		for k := range most {
			var end bool
			x, end, err = stepped(t, x)
			if k == 10 {
				long++
			}
			if err != api.OK || end {
				want = x
				break
			}
			err = api.ErrFuel
		}
		if got, e := sim.Run(m, most); !same(got, want) || e != err {
			t.Fatalf("Run(%.900v, %d) is %.900v %d, not %.900v %d", m, most, got, e, want, err)
		}
		seen[err]++
	}
	for _, err := range []api.Errno{api.OK, api.ErrNone, api.ErrBad, api.ErrRange, api.ErrFit, api.ErrFuel} {
		if seen[err] < 50 {
			t.Errorf("only %d runs come to %d", seen[err], err)
		}
	}
	if long < 100 {
		t.Errorf("only %d runs are long", long)
	}
}

func TestI2Programs(t *testing.T) {
	for _, c := range []struct {
		what, source string
		base, steps  int
		told         []int
	}{
		{"the end alone", "trapa #0", 0, 1, nil},
		{"two steps", "mov #5,r1\ntrapa #0", 12, 2, nil},
		{"a sum of 1 to 10", "mov #10,r1\nl: add r1,r0\ndt r1\nbf l\ntrapa #1\ntrapa #0", 4, 33, []int{55}},
		{"a routine", "mov #3,r4\nbsr f\nmov #4,r5\ntrapa #1\ntrapa #0\nf: mov r4,r0\nrts\nadd r5,r0", 4, 6, []int{7}},
		{"a word that counts", "mov.l =c,r1\nmov.l @r1,r0\nadd #1,r0\nmov.l r0,@r1\nmov.l c,r0\ntrapa #9\ntrapa #0\n.pool\nc: .long 41", 1 << 20, 7, []int{42}},
		{"half words", "mov.w a,r0\ntrapa #1\nmov.w b,r0\ntrapa #1\ntrapa #0\na: .word 32767\nb: .word 32768", 0, 5, []int{32767, -32768}},
		{"far behind", "mov.l =f,r1\njmp @r1\nmov #1,r0\ntrapa #0\n.pool\nf: trapa #1\nadd #1,r0\ntrapa #255\ntrapa #0", 400, 6, []int{1, 2}},
	} {
		got, err := sim.Run(sim.New(image(t, c.base, c.source)), api.MaxSteps)
		if err != api.OK || got.Steps != c.steps || !slices.Equal(got.Told, c.told) {
			t.Errorf("%s: Run is %d, tells %v in %d steps", c.what, err, got.Told, got.Steps)
		}
	}
}
