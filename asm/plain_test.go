package asm_test

import (
	"math/rand"
	"slices"
	"strconv"
	"strings"
	"testing"

	"platelayer/api"
	"platelayer/asm"
	"platelayer/expr"
	"platelayer/isa"
	"platelayer/macro"
	"platelayer/scan"
)

// thing is what has bytes, by the chapter's words: noughts up to a multiple, a number, or an instruction.
type thing struct {
	kind     string // "fill", "number", "code"
	line     int
	size     int // of noughts: the multiple
	value    api.Value
	instr    api.Instr
	to       bool // the instruction leads to value
	in       int  // or loads it from this pool, if that is not 0
	at, long int
}

// model builds by the chapter's words, with lists alone.
type model struct {
	equs   []api.Equ
	things []thing
	names  []string
	ahead  []int // of which thing each name stands
	pool   int
	asked  []api.Value
	first  []int // of each pool: which thing its first value is
}

func isRegister(x api.Token) bool {
	if x.Kind != api.TokWord || !strings.HasPrefix(x.Text, "r") {
		return false
	}
	n, err := strconv.Atoi(x.Text[1:])
	return err == nil && n >= 0 && n < 16 && strconv.Itoa(n) == x.Text[1:]
}

// parse is one operand: its kind, its register, its value, and how many tokens it has.
func (m *model) parse(l []api.Token) (string, int, api.Value, int, api.Errno) {
	kind, from := "place", 0
	switch {
	case l[0] == sign("#") || l[0] == sign("="):
		kind, from = l[0].Text, 1
	case l[0] == sign("@") && (len(l) == 1 || !isRegister(l[1])):
		return "", 0, api.Value{}, 0, api.ErrForm
	case l[0] == sign("@"):
		n, _ := strconv.Atoi(l[1].Text[1:])
		return "@", n, api.Value{}, 2, api.OK
	case isRegister(l[0]):
		n, _ := strconv.Atoi(l[0].Text[1:])
		return "r", n, api.Value{}, 1, api.OK
	}
	e, n, err := expr.Parse(l[from:])
	if err != api.OK {
		return "", 0, api.Value{}, 0, err
	}
	v, err := expr.Eval(e, m.equs)
	return kind, 0, v, from + n, err
}

// line is one line: labels, a word, operands.
func (m *model) line(at int, l []api.Token) api.Errno {
	for len(l) > 1 && l[0].Kind == api.TokWord && l[1] == sign(":") {
		taken := slices.ContainsFunc(m.equs, func(q api.Equ) bool { return q.Name == l[0].Text })
		if !scan.Name(l[0].Text) || isRegister(l[0]) || taken || slices.Contains(m.names, l[0].Text) {
			return api.ErrName
		}
		m.names, m.ahead = append(m.names, l[0].Text), append(m.ahead, len(m.things))
		l = l[2:]
	}
	if len(l) == 0 {
		return api.OK
	}
	head := l[0]
	if head.Kind != api.TokWord {
		return api.ErrForm
	}
	var kinds []string
	var registers []int
	var values []api.Value
	for l = l[1:]; len(l) > 0; l = l[1:] {
		kind, register, value, n, err := m.parse(l)
		if err != api.OK {
			return err
		}
		kinds, registers, values = append(kinds, kind), append(registers, register), append(values, value)
		l = l[n:]
		if len(l) == 0 {
			break
		}
		if l[0] != sign(",") || len(l) == 1 {
			return api.ErrForm
		}
	}
	return m.statement(at, head.Text, kinds, registers, values)
}

func (m *model) statement(at int, name string, kinds []string, registers []int, values []api.Value) api.Errno {
	switch name {
	case ".byte", ".word", ".long":
		size := map[string]int{".byte": 1, ".word": 2, ".long": 4}[name]
		if len(kinds) == 0 {
			return api.ErrForm
		}
		for i, v := range values {
			switch {
			case kinds[i] != "place":
				return api.ErrForm
			case v.Name != "" && size == 1:
				return api.ErrFit
			case v.Name == "" && (v.N < -1<<(8*size-1) || v.N >= 1<<(8*size)):
				return api.ErrRange
			}
			m.things = append(m.things, thing{kind: "number", line: at, size: size, value: v})
		}
		return api.OK
	case ".align":
		if len(kinds) != 1 || kinds[0] != "place" || values[0].Name != "" {
			return api.ErrForm
		}
		if !slices.Contains([]int{1, 2, 4, 8, 16}, values[0].N) {
			return api.ErrRange
		}
		m.things = append(m.things, thing{kind: "fill", line: at, size: values[0].N})
		return api.OK
	case ".pool":
		if len(kinds) > 0 {
			return api.ErrForm
		}
		m.endPool()
		return api.OK
	}
	return m.code(at, name, kinds, registers, values)
}

func (m *model) endPool() {
	if len(m.asked) > 0 {
		m.things = append(m.things, thing{kind: "fill", size: 4})
		m.first[m.pool-1] = len(m.things)
		for _, v := range m.asked {
			m.things = append(m.things, thing{kind: "number", size: 4, value: v})
		}
	}
	m.asked = nil
}

func (m *model) code(at int, name string, kinds []string, registers []int, values []api.Value) api.Errno {
	form := strings.Join(kinds, ",")
	x := thing{kind: "code", line: at, size: 2}
	if name == "mov.l" && form == "=,r" {
		if len(m.asked) == 0 {
			m.pool++
			m.first = append(m.first, -1)
		}
		if !slices.Contains(m.asked, values[0]) {
			m.asked = append(m.asked, values[0])
		}
		x.instr, x.in, x.value = api.Instr{Op: api.OpLoadL, N: registers[1]}, m.pool, values[0]
		m.things = append(m.things, x)
		return api.OK
	}
	shapes := map[string][]int{"": {api.ShapeNone}, "#,r": {api.ShapeImm}, "r,r": {api.ShapeTwo}, "r": {api.ShapeOne}, "place": {api.ShapeNear, api.ShapeFar}, "@": {api.ShapeAt}, "place,r": {api.ShapeWord, api.ShapeLong}, "r,@": {api.ShapeTo}, "@,r": {api.ShapeFrom}, "#": {api.ShapeNumber}}
	shape := 0
	for _, s := range shapes[form] {
		if op := isa.Find(name, s); op != 0 {
			x.instr.Op, shape = op, s
		}
	}
	if x.instr.Op == 0 {
		return api.ErrKind
	}
	if strings.HasPrefix(form, "#") {
		if values[0].Name != "" {
			return api.ErrFit
		}
		x.instr.Imm = values[0].N
	}
	switch shape {
	case api.ShapeTwo, api.ShapeTo, api.ShapeFrom:
		x.instr.M, x.instr.N = registers[0], registers[1]
	case api.ShapeOne, api.ShapeAt:
		x.instr.N = registers[0]
	case api.ShapeImm, api.ShapeWord, api.ShapeLong:
		x.instr.N = registers[1]
	}
	if x.to = strings.HasPrefix(form, "place"); x.to {
		x.value = values[0]
	}
	m.things = append(m.things, x)
	return isa.Wrong(x.instr)
}

// where is where a label stands: below 0, if it is none.
func (m *model) where(name string) int {
	i := slices.Index(m.names, name)
	if i < 0 {
		return -1
	}
	if m.ahead[i] == len(m.things)-1 && m.things[len(m.things)-1].kind == "end" {
		return m.things[len(m.things)-1].at
	}
	return m.things[m.ahead[i]].at
}

// lay tells places, until no more branches are long: whether there is not too much.
func (m *model) lay() bool {
	for {
		at := 0
		for i, x := range m.things {
			m.things[i].at = at
			if x.kind == "fill" {
				for at%x.size != 0 {
					at++
				}
			} else {
				at += x.size + x.long
			}
		}
		if at > api.MaxCode {
			return false
		}
		var out []int
		for i, x := range m.things {
			if (x.instr.Op == api.OpBt || x.instr.Op == api.OpBf) && x.long == 0 && m.where(x.value.Name) >= 0 {
				if far := m.where(x.value.Name) + x.value.N - x.at - 4; far < -256 || far > 254 {
					out = append(out, i)
				}
			}
		}
		if len(out) == 0 {
			return true
		}
		for _, i := range out {
			m.things[i].long = 4
		}
	}
}

// instructions is what stands for a thing that leads somewhere.
func (m *model) instructions(x thing) ([]api.Instr, api.Errno) {
	if !x.to && x.in == 0 {
		return []api.Instr{x.instr}, api.OK
	}
	place := 0
	switch {
	case x.in > 0:
		i := m.first[x.in-1]
		for m.things[i].value != x.value {
			i++
		}
		place = m.things[i].at
	case x.value.Name == "":
		return nil, api.ErrFit
	case m.where(x.value.Name) < 0:
		return nil, api.ErrNone
	default:
		place = m.where(x.value.Name) + x.value.N
	}
	if x.long > 0 {
		i, err := reach(api.Instr{Op: api.OpBra}, x.at+2, place)
		return []api.Instr{{Op: api.OpBt + api.OpBf - x.instr.Op, Imm: 1}, i, {Op: api.OpNop}}, err
	}
	i, err := reach(x.instr, x.at, place)
	return []api.Instr{i}, err
}

func reach(i api.Instr, at, place int) (api.Instr, api.Errno) {
	from, step := at+4, 2
	if i.Op == api.OpLoadL {
		from, step = (at+4)/4*4, 4
	}
	if (place-from)%step != 0 {
		return i, api.ErrAlign
	}
	i.Imm = (place - from) / step
	return i, isa.Wrong(i)
}

// object is what all is written as.
func (m *model) object() (api.Object, api.Fault) {
	var o api.Object
	for _, x := range m.things {
		if x.kind == "fill" {
			for len(o.Code)%x.size != 0 {
				o.Code = append(o.Code, 0)
			}
			continue
		}
		if x.kind != "end" && x.at%x.size != 0 {
			return api.Object{}, api.Fault{Err: api.ErrAlign, At: x.line}
		}
		if x.kind == "number" {
			n := x.value.N
			if x.value.Name != "" {
				r := api.Reloc{At: x.at, Size: x.size, Name: x.value.Name, Add: n}
				if at := m.where(r.Name); at >= 0 {
					r.Name, r.Add = "", int(int32(at+n))
				}
				o.Relocs = append(o.Relocs, r)
				n = 0
			}
			for i := x.size - 1; i >= 0; i-- {
				o.Code = append(o.Code, byte(n>>(8*i)))
			}
		}
		if x.kind == "code" {
			l, err := m.instructions(x)
			if err != api.OK {
				return api.Object{}, api.Fault{Err: err, At: x.line}
			}
			for _, i := range l {
				w, _ := isa.Encode(i)
				o.Code = append(o.Code, byte(w>>8), byte(w))
			}
		}
	}
	for _, name := range m.names {
		o.Syms = append(o.Syms, api.Sym{Name: name, At: m.where(name)})
	}
	return o, api.Fault{}
}

// plainly is what comes of lines by model.
func plainly(l []api.Line, equs []api.Equ) (api.Object, api.Fault) {
	m := model{equs: equs}
	for _, x := range l {
		if err := m.line(x.At, x.Tokens); err != api.OK {
			return api.Object{}, api.Fault{Err: err, At: x.At}
		}
	}
	m.endPool()
	m.things = append(m.things, thing{kind: "end"})
	if !m.lay() {
		return api.Object{}, api.Fault{Err: api.ErrMuch}
	}
	return m.object()
}

// maker makes lines of all kinds, mostly as they must be.
type maker struct{ *rand.Rand }

func (m maker) pick(l ...string) string { return l[m.Intn(len(l))] }

func (m maker) label() string { return "l" + strconv.Itoa(m.Intn(12)) }

func (m maker) register() string { return "r" + strconv.Itoa(m.Intn(16)) }

// place is mostly a label that is near enough.
func (m maker) place() string {
	return m.label() + m.pick("", "", "", "", "", "", "", "+2", "-2", "+4", "+n", "+n*2-8")
}

func (m maker) value() string {
	return m.pick("1", "n", "-7", "0x7f", "n*3", m.place(), m.place(), "zz", "zz+1", "l1-l1", "l2+70000", "300", "70000-69999")
}

// branches makes many that lead from place to place, with what lies between.
func (m maker) branches(n int) []string {
	var out []string
	at := []int{m.Intn(n), m.Intn(n), m.Intn(n), m.Intn(n), m.Intn(n), m.Intn(n), m.Intn(n), m.Intn(n), m.Intn(n), m.Intn(n), m.Intn(n), m.Intn(n)}
	for i := range n {
		for k, x := range at {
			if x == i {
				out = append(out, "l"+strconv.Itoa(k)+":")
			}
		}
		switch m.Intn(6) {
		case 0:
			out = append(out, gap(2+2*m.Intn(70)))
		case 1:
			out = append(out, ".align "+m.pick("4", "8", "16", "16"))
		case 2:
			out = append(out, m.pick("mov.l ="+m.value()+","+m.register(), "mov.l ="+m.place()+","+m.register(), ".pool", "nop", ".align 2\n.word "+m.value()))
		default:
			out = append(out, m.pick("bt ", "bf ", "bt ", "bf ", "bra ")+m.place())
		}
	}
	return out
}

// some makes lines of all kinds, with each label once.
func (m maker) some(n int) []string {
	var out []string
	for k := range 12 {
		out = append(out, "l"+strconv.Itoa(k)+": "+m.one())
	}
	for range n {
		out = append(out, m.one())
	}
	if m.Intn(3) == 0 {
		out = append(out, m.pick("bra zz", "bt zz+1", ".byte 1", "bra l1+1", "bra 5", "mov.w "+m.place()+",r1", "mov.w "+m.place()+",r1", "mov.l "+m.place()+",r1", ".long 1", ".long l1", ".word 1", "mov #128,r1", gap(1100), "mov.l zz,r1"))
	}
	m.Shuffle(len(out), func(i, j int) { out[i], out[j] = out[j], out[i] })
	return out
}

func (m maker) one() string {
	a, b := m.register(), m.register()
	return m.pick("", "nop", "rts", "mov #-5,"+a, "add #n,"+a, "mov #"+m.pick("127", "-128", "n-3", "(1)")+","+b, "mov "+a+","+b, m.pick("sub ", "and ", "or ", "xor ", "tst ", "cmp/eq ", "cmp/gt ", "add ")+a+","+b, m.pick("shll ", "shlr ", "dt ")+a,
		"bt "+m.place(), "bf "+m.place(), "bra "+m.place(), "bsr "+m.place(), m.pick("jmp @", "jsr @")+a, "mov.l "+a+",@"+b, "mov.l @"+a+","+b, "trapa #"+m.pick("0", "255", "n"),
		"mov.l ="+m.value()+","+a, "mov.l ="+m.value()+","+a, "mov.l ="+m.value()+","+b, ".pool", ".align 4", ".align "+m.pick("1", "2", "8", "16"), ".byte 1,2", ".byte 255,-128", ".align 4\n.long "+m.value()+","+m.value(), ".align 2\n.word "+m.value(), gap(2+2*m.Intn(100)))
}

// spoil changes one token of a line.
func (m maker) spoil(s string) string {
	l := strings.Fields(strings.NewReplacer(",", " , ", "#", "# ", "@", "@ ", "=", "= ", "+", " + ", ":", " : ").Replace(s))
	i := m.Intn(len(l) + 1)
	if i < len(l) && m.Intn(2) == 0 {
		l = slices.Delete(l, i, i+1)
	}
	if m.Intn(2) == 0 {
		l = slices.Insert(l, i, m.pick(",", "#", "@", "=", ":", "r1", "r16", "l1", "5", "-", "~", "(", ")", "zz", ".x", ".byte", ".word", ".long 1", "nop", "mov", "*", "+ 1", "n", "l20 :", "l1 :", "n :", "256", "70000", "- l1", "-------1", "(((((((1", "mov.w", "mov.l"))
	}
	return strings.Join(l, " ")
}

// hold fails if Build is something else than what comes plainly, and answers the error.
func hold(t *testing.T, s string) api.Errno {
	t.Helper()
	l, equs := lines(t, s), []api.Equ{{Name: "n", N: 4}, {Name: "q", N: 1 << 40}, {Name: "n", N: 3}}
	o, f := asm.Build(l, equs)
	if p, g := plainly(l, equs); !same(o, p) || f != g {
		t.Fatalf("%q is\n%v %v, not\n%v %v", s, o, f, p, g)
	}
	return f.Err
}

func TestE1ToE4HoldAgainstPlainLists(t *testing.T) {
	m := maker{rand.New(rand.NewSource(5))}
	seen := map[api.Errno]int{}
	for range 6000 {
		l := m.some(m.Intn(30))
		for m.Intn(3) == 0 {
			i := m.Intn(len(l))
			l[i] = m.spoil(l[i])
		}
		seen[hold(t, joined(l...))]++
	}
	for _, err := range []api.Errno{api.OK, api.ErrKind, api.ErrForm, api.ErrRange, api.ErrNone, api.ErrName, api.ErrFit, api.ErrEnd, api.ErrDeep, api.ErrAlign} {
		if seen[err] < 20 {
			t.Errorf("%v comes %v times alone", err, seen[err])
		}
	}
}

func TestE3HoldsAgainstPlainLists(t *testing.T) {
	m := maker{rand.New(rand.NewSource(7))}
	seen := map[api.Errno]int{}
	for range 700 {
		seen[hold(t, joined(m.branches(20+m.Intn(150))...))]++
	}
	if seen[api.OK] < 300 || seen[api.ErrRange] < 20 {
		t.Errorf("they are %v", seen)
	}
}

// TestE3HoldsAgainstPlainListsWhereAllBranch: the places of many are told again for others.
func TestE3HoldsAgainstPlainListsWhereAllBranch(t *testing.T) {
	for _, n := range []int{40, 41, 42, 43, 44, 62, 63, 64, 65} {
		var l []string
		for i := range 600 {
			l = append(l, "l"+strconv.Itoa(i)+": bt l"+strconv.Itoa(i+n), "bf l"+strconv.Itoa(max(0, i-n)))
		}
		for i := range n {
			l = append(l, "l"+strconv.Itoa(600+i)+": nop")
		}
		if err := hold(t, joined(l...)); err != api.OK {
			t.Errorf("of %v it is %v", n, err)
		}
	}
}

// TestE1UnitHoldsAgainstPlainLists: lines of macros, that Unit does not write out, are what Expand writes.
func TestE1UnitHoldsAgainstPlainLists(t *testing.T) {
	m := maker{rand.New(rand.NewSource(9))}
	within := []string{"m #1,r1", "m =x x,r1", "mov.l x,y", "mov x , y", ".long x", ".long y", "bra y x", "y: x", "x", "a: nop", "k x x", "k + 1", "k a :", ".long 1 x", "k * x", ".align 4", "m y,x"}
	around := append([]string{".rept 2", ".endr", ".if n", ".else", ".endif", ".equ n, 2", ".macro h x", ".endm"}, within...)
	seen := map[api.Errno]int{}
	for range 50000 {
		l := []string{".macro m x y", m.pick(within...), m.pick(within...), ".endm", ".macro k x", m.pick(within...), ".endm"}
		for range 1 + m.Intn(6) {
			l = append(l, m.pick(around...))
		}
		s := joined(l...)
		out, equs, f := macro.Expand(lines(t, s))
		var o api.Object
		if f.Err == api.OK {
			o, f = plainly(out, equs)
		}
		if p, g := asm.Unit([]byte(s)); !same(o, p) || f != g {
			t.Fatalf("%q is\n%v %v, not\n%v %v", s, p, g, o, f)
		}
		seen[f.Err]++
	}
	for _, err := range []api.Errno{api.OK, api.ErrKind, api.ErrForm, api.ErrNone, api.ErrName, api.ErrFit, api.ErrDeep} {
		if seen[err] < 20 {
			t.Errorf("%v comes %v times alone", err, seen[err])
		}
	}
}
