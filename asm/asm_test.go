package asm_test

import (
	"encoding/hex"
	"math"
	"reflect"
	"slices"
	"strconv"
	"strings"
	"testing"

	"platelayer/api"
	"platelayer/asm"
	"platelayer/macro"
	"platelayer/scan"
)

// lines is the lines of a text that have tokens, however long it and they are.
func lines(t *testing.T, s string) []api.Line {
	t.Helper()
	var out []api.Line
	for i, x := range strings.Split(s, "\n") {
		line := api.Line{At: i + 1}
		for _, y := range strings.Fields(x) {
			l, err := scan.Tokens(y)
			if err != api.OK {
				t.Fatalf("%q has no tokens: %v", y, err)
			}
			line.Tokens = append(line.Tokens, l...)
		}
		if len(line.Tokens) > 0 {
			out = append(out, line)
		}
	}
	return out
}

// build is what comes of a text: by Build (without macros, if it has more lines than these may make), and, if it is short enough, by
// Unit, which must be the same.
func build(t *testing.T, s string) (api.Object, api.Fault) {
	t.Helper()
	l := lines(t, s)
	if len(l) > api.MaxLines {
		return asm.Build(l, nil)
	}
	l, equs, f := macro.Expand(l)
	var o api.Object
	if f.Err == api.OK {
		o, f = asm.Build(l, equs)
	}
	if _, long := scan.Lines([]byte(s)); long.Err == api.OK {
		if p, g := asm.Unit([]byte(s)); !same(o, p) || f != g {
			t.Fatalf("Unit(%q) is %v %v, not %v %v", s, p, g, o, f)
		}
	}
	return o, f
}

// same is whether two objects are, nil and lists without entries being the same.
func same(a, b api.Object) bool {
	return slices.Equal(a.Code, b.Code) && slices.Equal(a.Syms, b.Syms) && slices.Equal(a.Relocs, b.Relocs)
}

// want fails if s has other bytes; blanks between them mean nothing.
func want(t *testing.T, s, code string) {
	t.Helper()
	wantAll(t, s, code, nil, nil)
}

// wantAll fails if s is anything else; syms, if they are nil, may be any.
func wantAll(t *testing.T, s, code string, syms []api.Sym, relocs []api.Reloc) {
	t.Helper()
	o, f := build(t, s)
	if syms == nil {
		syms = o.Syms
	}
	b, err := hex.DecodeString(strings.ReplaceAll(code, " ", ""))
	if err != nil {
		t.Fatal(err)
	}
	if want := (api.Object{Code: b, Syms: syms, Relocs: relocs}); !same(o, want) || f != (api.Fault{}) {
		t.Errorf("%.500q is % x %v %v %v, not % x %v %v", s, o.Code, o.Syms, o.Relocs, f, b, syms, relocs)
	}
}

// wrong fails if s has no fault, or another one, or something beside it.
func wrong(t *testing.T, s string, err api.Errno, at int) {
	t.Helper()
	o, f := build(t, s)
	if f != (api.Fault{Err: err, At: at}) || !reflect.DeepEqual(o, api.Object{}) {
		t.Errorf("%.500q is %v %v, not %v at %v", s, o, f, err, at)
	}
}

// wrongEach fails if one of these has not that fault in a line of its own, behind others.
func wrongEach(t *testing.T, err api.Errno, l ...string) {
	t.Helper()
	for _, s := range l {
		wrong(t, "x0: nop\n\n"+s+"\nx1: nop", err, 3)
	}
}

func word(s string) api.Token { return api.Token{Kind: api.TokWord, Text: s} }

func sign(s string) api.Token { return api.Token{Kind: api.TokSign, Text: s} }

func number(n int) api.Token { return api.Token{Kind: api.TokNumber, N: n} }

func TestE1Nothing(t *testing.T) {
	wantAll(t, "", "", []api.Sym{}, nil)
	wantAll(t, "\n\n \t\r\n", "", []api.Sym{}, nil)
	for _, l := range [][]api.Line{nil, {}, {{At: 5}}, {{}, {Tokens: []api.Token{}}}} {
		if o, f := asm.Build(l, nil); !same(o, api.Object{}) || f != (api.Fault{}) {
			t.Errorf("Build(%v) is %v %v", l, o, f)
		}
	}
	if o, f := asm.Unit(nil); !same(o, api.Object{}) || f != (api.Fault{}) {
		t.Errorf("Unit of nothing is %v %v", o, f)
	}
}

func TestE1UnitHasTheFirstFault(t *testing.T) {
	for s, want := range map[string]api.Fault{
		"nop\n?\n.endm\nzap":                           {Err: api.ErrForm, At: 2},
		"nop\n12ab":                                    {Err: api.ErrForm, At: 2},
		"zap\n.endm\nzap":                              {Err: api.ErrForm, At: 2},
		"zap\n.equ n, 1\n.equ n, 1":                    {Err: api.ErrName, At: 3},
		"zap\n" + strings.Repeat(";", 81):              {Err: api.ErrMuch, At: 2},
		strings.Repeat("nop\n", 300):                   {Err: api.ErrMuch, At: 201},
		strings.Repeat("nop\n", 300) + "\n":            {Err: api.ErrMuch},
		"\n\n.macro m x\nmov #x,r1\n.endm\nm 1\nm 128": {Err: api.ErrRange, At: 7},
		".rept 2\n\na: nop\n.endr":                     {Err: api.ErrName, At: 3},
		"nop\n.if 0\nzap\n.else\n\nzap 1\n.endif":      {Err: api.ErrKind, At: 6},
	} {
		if o, f := asm.Unit([]byte(s)); f != want || !reflect.DeepEqual(o, api.Object{}) {
			t.Errorf("Unit(%q) is %v %v, not %v", s, o, f, want)
		}
	}
}

func TestE1UnitHasMacros(t *testing.T) {
	wantAll(t, ".equ n, 7\n.macro more x\nadd #x,r1\n.endm\na: nop\n.rept 2\nmore n\n.endr\n.if n-7\nrts\n.else\nbra a\n.endif\nb: .long b+n",
		"0009 7107 7107 affb 00000000", []api.Sym{{Name: "a"}, {Name: "b", At: 8}}, []api.Reloc{{At: 8, Size: 4, Add: 15}})
	// A head is a line's first token: behind labels nothing of this is done.
	wrongEach(t, api.ErrKind, "a: .rept 2", "a: .macro m", "a: .endm", "a: .equ n, 5", "a: .if 1", "a: .else", "a: more 5")
	wrong(t, ".macro m\nnop\n.endm\na: m", api.ErrKind, 4)
}

func TestE1Labels(t *testing.T) {
	wantAll(t, "a: nop\nb:\nc: d : e: rts\nf:", "0009 000b", []api.Sym{{Name: "a"}, {Name: "b", At: 2}, {Name: "c", At: 2}, {Name: "d", At: 2}, {Name: "e", At: 2}, {Name: "f", At: 4}}, nil)
	wantAll(t, "z: y:\nx: .byte 1\n_: .byte 2\nw: .align 4\nv: nop :", "0102 0000", []api.Sym{{Name: "z"}, {Name: "y"}, {Name: "x"}, {Name: "_", At: 1}, {Name: "w", At: 2}, {Name: "v", At: 4}, {Name: "nop", At: 4}}, nil)
	wantAll(t, "r16: R1: r: r00: r01: r1r: rr1: mov: abcdefghij:", "", []api.Sym{{Name: "r16"}, {Name: "R1"}, {Name: "r"}, {Name: "r00"}, {Name: "r01"}, {Name: "r1r"}, {Name: "rr1"}, {Name: "mov"}, {Name: "abcdefghij"}}, nil)
	wantAll(t, "a: mov.l =1,r1\nb: .pool\nc: nop", "d100 0000 00000001 0009", []api.Sym{{Name: "a"}, {Name: "b", At: 2}, {Name: "c", At: 8}}, nil)
}

func TestE1LabelsThatAreWrong(t *testing.T) {
	wrongEach(t, api.ErrName, "abcdefghijk:", ".a:", "a.b:", "a/b:", "x0:", "a: a:", "a: b: a: nop", "a: a: (", ".: zap", "x0: .byte 256", "x0: 5")
	for n := range 16 {
		wrongEach(t, api.ErrName, "r"+strconv.Itoa(n)+":", "a: r"+strconv.Itoa(n)+": nop")
	}
	wrong(t, ".equ n, 5\nn: nop", api.ErrName, 2)
	wrong(t, "nop\nn: nop\n.equ n, 5", api.ErrName, 2)
	wrong(t, "a: nop\nb: nop\n\na:\nb:", api.ErrName, 4)
	for _, q := range [][]api.Equ{{{Name: "n"}}, {{Name: "m", N: 1}, {Name: "n", N: 2}, {Name: "n", N: 3}}} {
		if o, f := asm.Build(lines(t, "\nm1: n: nop"), q); f != (api.Fault{Err: api.ErrName, At: 2}) || !reflect.DeepEqual(o, api.Object{}) {
			t.Errorf("with %v it is %v %v", q, o, f)
		}
	}
}

func TestE1WordsBehindLabels(t *testing.T) {
	wrongEach(t, api.ErrForm, "5", "5: nop", ": nop", "#1", "a: 5", "a: :", "a: : nop", "a:: nop", "(nop)", ",", "a: , nop", "= r1", "@r1", "1 zap", "-a: nop")
	for _, x := range []api.Token{{Kind: 0, Text: "nop"}, {Kind: api.TokNumber, Text: "nop"}, {Kind: api.TokSign, Text: "nop"}, {Kind: 4, Text: "nop"}, {Kind: -1, Text: "nop"}, {Kind: math.MinInt, Text: "nop"}} {
		for _, l := range [][]api.Token{{x}, {x, sign(":")}, {word("a"), sign(":"), x}} {
			if o, f := asm.Build([]api.Line{{At: -3, Tokens: l}}, nil); f != (api.Fault{Err: api.ErrForm, At: -3}) || !reflect.DeepEqual(o, api.Object{}) {
				t.Errorf("Build(%v) is %v %v", l, o, f)
			}
		}
	}
}

func TestE1AnyTokens(t *testing.T) {
	for _, c := range []struct {
		tokens []api.Token
		err    api.Errno
	}{
		{[]api.Token{word("")}, api.ErrKind},
		{[]api.Token{word(""), sign(":")}, api.ErrName},
		{[]api.Token{word("nop"), word(":")}, api.ErrName},
		{[]api.Token{word("nop"), {Kind: 5, Text: ":"}}, api.ErrForm},
		{[]api.Token{word(".byte"), {}}, api.ErrForm},
		{[]api.Token{word(".byte"), number(1), {Text: ","}, number(1)}, api.ErrForm},
		{[]api.Token{word(".byte"), number(1), word(","), number(1)}, api.ErrForm},
		{[]api.Token{word("shll"), sign("r1")}, api.ErrForm},
		{[]api.Token{word("shll"), {Kind: api.TokNumber, N: 1, Text: "r1"}}, api.ErrKind},
		{[]api.Token{word("trapa"), {Kind: api.TokNumber, N: 1, Text: "#"}, number(1)}, api.ErrForm},
		{[]api.Token{word("jmp"), word("@"), word("r1")}, api.ErrName},
		{[]api.Token{word("jmp"), sign("@"), sign("r1")}, api.ErrForm},
		{[]api.Token{word("trapa"), sign("#"), number(1 << 32)}, api.OK},
		{[]api.Token{word(".long"), number(math.MinInt)}, api.OK},
		{[]api.Token{word(".long"), number(math.MaxInt)}, api.OK},
		{[]api.Token{word(".byte"), number(-129)}, api.ErrRange},
		{[]api.Token{word(".byte"), number(-128)}, api.OK},
	} {
		o, f := asm.Build([]api.Line{{At: 7, Tokens: c.tokens}}, nil)
		want := api.Fault{Err: c.err, At: 7}
		if c.err == api.OK {
			want = api.Fault{}
		}
		if f != want || f.Err != api.OK && !reflect.DeepEqual(o, api.Object{}) {
			t.Errorf("Build(%v) is %v %v, not %v", c.tokens, o, f, want)
		}
	}
}

func TestE1NumbersOfLines(t *testing.T) {
	for _, at := range []int{0, -1, 5, math.MinInt, math.MaxInt} {
		for s, err := range map[string]api.Errno{"zap": api.ErrKind, "a: a:": api.ErrName, "bra zz": api.ErrNone, "bt 5": api.ErrFit, ".byte 256": api.ErrRange} {
			l := append(lines(t, "nop"), lines(t, s)...)
			l[1].At = at
			if o, f := asm.Build(l, nil); f != (api.Fault{Err: err, At: at}) || !reflect.DeepEqual(o, api.Object{}) {
				t.Errorf("%q in line %v is %v %v", s, at, o, f)
			}
		}
	}
}

func TestE1WhatStandsBetweenOperands(t *testing.T) {
	want(t, ".byte 1,2 , 3,4\nmov r1 , r2\nmov\t#5\t,\tr3\nmov.l @ r4 ,r5\nmov.l r6, @ r7", "01020304 6213 e305 6542 2762")
	wrongEach(t, api.ErrForm, "mov r1 r2", "mov r1,", "mov ,r1", "mov r1,,r2", "mov ,", "mov ,,", "mov r1,r2,", "nop ,", "nop 1 :", ".byte 1 2", ".byte 1,", ".byte ,1", ".byte 1,,2",
		".byte 1 a", ".byte (1) (2)", ".byte 1)", ".byte 1 #", ".byte 1:", "mov #1 r1", "mov #1 #", "jmp @r1 r2", "jmp @r1)", "jmp @r1+2", "shll r1+2", "shll r1 r1", "mov r1 @r2", "mov.l =1 r1", "mov.l =1,", "zap 1 2", "zap 1,", "zap ,", ".pool ,", ".align 4 4", ".align ,")
}

func TestE1OperandsThatAreWrong(t *testing.T) {
	wrongEach(t, api.ErrForm, "jmp @", "jmp @5", "jmp @a", "jmp @r16", "jmp @(r1)", "jmp @@r1", "jmp @#1", "jmp @,r1", "mov.l @,r1", "mov.l r1,@", "mov #,r1", "mov.l =,r1", "mov.l = ,r1", "mov #-,r1", "bra *", "bra )", "bra ()", "bra (a", "mov #(1,r1", "mov ##1,r1", "mov #@r1,r1", "mov.l ==1,r1", "mov.l =#1,r1", "bra a :", "trapa #=1")
	wrongEach(t, api.ErrEnd, "trapa #", "mov r1,#", "mov.l =", "mov.l r1,=", "bra -", "bra 1+", "trapa #~", "bra (", "bra (1+", "mov r1,2*")
	wrongEach(t, api.ErrName, "bra .x", "bra abcdefghijk", "mov #a/b,r1", "mov.l =a.b,r1", "mov.l =1+.x,r1", "zap .x", "mov .pool")
	wrongEach(t, api.ErrDeep, "mov #-------1,r1", "bra (((((((a)))))))", "mov.l =-------,r1", "mov #~-~-~-(", "zap (((((((")
	wrongEach(t, api.ErrFit, "mov #-x0,r1", "mov.l =x0*2,r1", "mov.l =x0-x1,r1", "bra 1-x0", "bra x0+x1", "bra ~x0", "zap x0|1", ".byte x0*2")
	// In r1+2 the register is the operand, and no comma follows; elsewhere in an expression its name is a name.
	wantAll(t, "mov.l =0+r1,r1\n.word (r2),1+r3,a-1\nnop", "d102 0000 0000 0000 0009 0000 00000000", []api.Sym{}, []api.Reloc{{At: 2, Size: 2, Name: "r2"}, {At: 4, Size: 2, Name: "r3", Add: 1}, {At: 6, Size: 2, Name: "a", Add: -1}, {At: 12, Size: 4, Name: "r1"}})
	want(t, ".equ r1, 5\nmov r1,r2\nmov #r1,r1", "6213 e105")
}

func TestE1TheFirstErrorOfALine(t *testing.T) {
	for s, err := range map[string]api.Errno{
		"x0: 5 (": api.ErrName, "x0: zap .x": api.ErrName, "a: 5 .x": api.ErrForm,
		"zap .x, (": api.ErrName, "zap (, .x": api.ErrForm, "zap -a, .x": api.ErrFit, "zap 1 2, .x": api.ErrForm, "zap -a b": api.ErrFit, "zap (-a b": api.ErrForm, "zap -a *": api.ErrEnd, "zap -a,": api.ErrFit, "zap 1, -a": api.ErrFit, "zap @5, -a": api.ErrForm,
		".byte 256, .x": api.ErrName, ".byte 256, #1": api.ErrRange, ".byte #1, 256": api.ErrForm, ".byte a, 256": api.ErrFit, ".byte 256, a": api.ErrRange, ".byte r1, a": api.ErrForm,
		".align 3, (": api.ErrEnd, ".align 3, 3": api.ErrForm, ".pool .x": api.ErrName, "mov #a,r16": api.ErrKind, "mov #128,r1,": api.ErrForm, "mov #a-a+128,r1": api.ErrRange, "mov #x0,@5": api.ErrForm,
	} {
		wrongEach(t, err, s)
	}
}

func TestE1Expressions(t *testing.T) {
	wantAll(t, ".equ n, 3\nmov #n*2+1,r1\nmov #(n),r2\nmov # - n , r3\nmov.l =n<<8|1,r4\n.long n&2,~n,a+n,(a)-1,n+a,a-a\na: .word -(1)",
		"e107 e203 e3fd d407 00000002 fffffffc 00000000 00000000 00000000 00000000 ffff 0000 00000301", []api.Sym{{Name: "a", At: 32}},
		[]api.Reloc{{At: 16, Size: 4, Add: 35}, {At: 20, Size: 4, Add: 31}, {At: 24, Size: 4, Add: 35}})
	o, f := asm.Build(lines(t, "mov #n,r1\nmov #m,r2"), []api.Equ{{Name: "n", N: 1<<32 + 3}, {Name: "m", N: -1}, {Name: "n", N: 4}})
	if !slices.Equal(o.Code, []byte{0xe1, 3, 0xe2, 0xff}) || f != (api.Fault{}) {
		t.Errorf("with two n it is %v %v", o, f)
	}
	want(t, ".long 1"+strings.Repeat(" +1", 300000)+"\n.byte 2"+strings.Repeat(", 3", 5), "000493e1 020303030303")
}

func TestE1TheFirstLine(t *testing.T) {
	wrong(t, "nop\n\nzap\n.byte 256\na: a:", api.ErrKind, 3)
	wrong(t, "nop\n.byte 256\nzap", api.ErrRange, 2)
	// What lines are comes ahead of how they are laid, and that ahead of where they stand.
	wrong(t, "bra zz\n.byte 1\nnop\nzap", api.ErrKind, 4)
	wrong(t, "bra zz\nmov #128,r1", api.ErrRange, 2)
	wrong(t, "bra zz\n.byte 1\nmov #q,r1\n.word a*2", api.ErrFit, 3)
	wrong(t, "bra zz\n"+rows(2001, ".long 1")+"\n5", api.ErrForm, 2003)
	wrong(t, "bra zz\n"+rows(2001, ".long 1"), api.ErrMuch, 0)
}

// rows is s, n times, each in a line of its own.
func rows(n int, s string) string { return strings.TrimSuffix(strings.Repeat(s+"\n", n), "\n") }

func TestWhatIsHandedInIsOnlyRead(t *testing.T) {
	s := "a: mov #n,r1\nbt a\nmov.l =a+n,r2\n.long a,zz\n.pool\n.word zz+n"
	l, equs := lines(t, s), append(make([]api.Equ, 0, 8), api.Equ{Name: "n", N: 3})
	for i := range l {
		l[i].Tokens = slices.Grow(l[i].Tokens, 4)
		spare := l[i].Tokens[len(l[i].Tokens):cap(l[i].Tokens)]
		for k := range spare {
			spare[k] = word("spare")
		}
	}
	equs[:2][1] = api.Equ{Name: "a", N: 9}
	before := deep(l)
	want, f := asm.Build(l, equs)
	if f != (api.Fault{Err: api.ErrAlign, At: 4}) {
		t.Fatalf("it is %v %v", want, f)
	}
	l[3].Tokens[0] = word(".word")
	before[3][0] = word(".word")
	want, f = asm.Build(l, equs)
	if f != (api.Fault{}) || len(want.Code) == 0 || len(want.Relocs) != 4 {
		t.Fatalf("it is %v %v", want, f)
	}
	if !reflect.DeepEqual(deep(l), before) || equs[0] != (api.Equ{Name: "n", N: 3}) || equs[:2][1] != (api.Equ{Name: "a", N: 9}) {
		t.Errorf("they are %v %v now", l, equs)
	}
	again, _ := asm.Build(l, equs)
	for i := range l {
		clear(l[i].Tokens)
		l[i].At = 0
	}
	equs[0].N = 5
	if !same(want, again) {
		t.Errorf("it is %v once, and then %v", want, again)
	}
	clear(again.Code[:cap(again.Code)])
	clear(again.Relocs[:cap(again.Relocs)])
	clear(again.Syms[:cap(again.Syms)])
	if third, f := asm.Build(lines(t, strings.Replace(s, ".long", ".word", 1)), []api.Equ{{Name: "n", N: 3}}); !same(want, third) || f != (api.Fault{}) {
		t.Errorf("it is %v %v, not %v", third, f, want)
	}
}

// deep is a copy of lines' tokens, with the spare room behind them.
func deep(l []api.Line) [][]api.Token {
	var out [][]api.Token
	for _, x := range l {
		out = append(out, slices.Clone(x.Tokens[:cap(x.Tokens)]))
	}
	return out
}

func TestSourcesAreOnlyRead(t *testing.T) {
	b := []byte("a: nop\nbra a\n.long zz\nzap spare")
	source := b[:len("a: nop\nbra a\n.long zz")]
	o, f := asm.Unit(source)
	if string(b) != "a: nop\nbra a\n.long zz\nzap spare" || f != (api.Fault{}) {
		t.Errorf("%q is %v %v", b, o, f)
	}
	clear(b)
	if want := (api.Object{Code: []byte{0, 9, 0xaf, 0xfd, 0, 0, 0, 0}, Syms: []api.Sym{{Name: "a"}}, Relocs: []api.Reloc{{At: 4, Size: 4, Name: "zz"}}}); !same(o, want) {
		t.Errorf("it is %v, not %v", o, want)
	}
}
