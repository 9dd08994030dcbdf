package macro_test

import (
	"math"
	"reflect"
	"strconv"
	"strings"
	"testing"

	"platelayer/api"
	"platelayer/macro"
	"platelayer/scan"
)

// source is the lines of a text that have tokens, however long it is.
func source(t *testing.T, s string) []api.Line {
	t.Helper()
	var out []api.Line
	for i, x := range strings.Split(s, "\n") {
		l, err := scan.Tokens(x)
		if err != api.OK {
			t.Fatalf("%q has no tokens: %v", x, err)
		}
		if len(l) > 0 {
			out = append(out, api.Line{At: i + 1, Tokens: l})
		}
	}
	return out
}

// told is lines as a text: each one's number, a colon, and its tokens.
func told(l []api.Line) string {
	out := make([]string, len(l))
	for i, x := range l {
		out[i] = strconv.Itoa(x.At) + ": " + scan.Print(x.Tokens)
	}
	return strings.Join(out, "\n")
}

// want fails if other lines, or other names, come of s.
func want(t *testing.T, s, lines string, equs ...api.Equ) {
	t.Helper()
	out, names, f := macro.Expand(source(t, s))
	if told(out) != lines || f != (api.Fault{}) || len(names)+len(equs) > 0 && !reflect.DeepEqual(names, equs) {
		t.Errorf("Expand(%q) is %q %v %v, not %q %v", s, told(out), names, f, lines, equs)
	}
}

// wrong fails if s has no fault, or another one, or something beside it.
func wrong(t *testing.T, s string, err api.Errno, at int) {
	t.Helper()
	wrongLines(t, source(t, s), err, at)
}

func wrongLines(t *testing.T, l []api.Line, err api.Errno, at int) {
	t.Helper()
	out, equs, f := macro.Expand(l)
	if f != (api.Fault{Err: err, At: at}) || out != nil || equs != nil {
		t.Errorf("Expand(%.300q) is %.300q %v %v, not %v at %v", told(l), told(out), equs, f, err, at)
	}
}

// rows is s, n times, each in a line of its own.
func rows(n int, s string) string { return strings.TrimSuffix(strings.Repeat(s+"\n", n), "\n") }

func word(s string) api.Token { return api.Token{Kind: api.TokWord, Text: s} }

func sign(s string) api.Token { return api.Token{Kind: api.TokSign, Text: s} }

func number(n int) api.Token { return api.Token{Kind: api.TokNumber, N: n} }

func TestD1LinesStandForThemselves(t *testing.T) {
	want(t, "", "")
	want(t, "nop\n\n; nothing\na: add #0x10,r1\n  rts", "1: nop\n4: a : add # 16 , r1\n5: rts")
	want(t, "x: .rept 2\n1 .endm\n, .macro\n( .equ n, 2\ny .else", "1: x : .rept 2\n2: 1 .endm\n3: , .macro\n4: ( .equ n , 2\n5: y .else")
	want(t, ".word 1\n.macros\n.end\n.ELSE\n.reptx\nmacro\nelse\n.", "1: .word 1\n2: .macros\n3: .end\n4: .ELSE\n5: .reptx\n6: macro\n7: else\n8: .")
	want(t, "m 1,2\nnop 5", "1: m 1 , 2\n2: nop 5")
}

func TestD1AnyTokensAndNumbersOfLines(t *testing.T) {
	heads := []string{".macro", ".endm", ".rept", ".endr", ".if", ".else", ".endif", ".equ", "m", "", ","}
	l := source(t, ".macro m\n.endm")
	var plain []api.Line
	for _, kind := range []int{api.TokNumber, api.TokSign, 0, 4, -1, math.MinInt, math.MaxInt} {
		for i, s := range heads {
			plain = append(plain, api.Line{At: (i - 5) * kind, Tokens: []api.Token{{Kind: kind, N: i - 5, Text: s}, word("m"), word(".endif")}})
		}
	}
	plain = append(plain, api.Line{At: math.MinInt, Tokens: []api.Token{word(""), word("m")}}, api.Line{At: math.MaxInt}, api.Line{At: 7, Tokens: []api.Token{}}, api.Line{})
	out, equs, f := macro.Expand(append(l, plain...))
	if len(out) != len(plain) || len(equs) > 0 || f != (api.Fault{}) {
		t.Fatalf("they are %v %v %v", out, equs, f)
	}
	for i, x := range out {
		if y := plain[i]; x.At != y.At || len(x.Tokens)+len(y.Tokens) > 0 && !reflect.DeepEqual(x.Tokens, y.Tokens) {
			t.Errorf("%v is %v", y, x)
		}
	}
	for _, at := range []int{0, -1, 1, math.MinInt, math.MaxInt} {
		wrongLines(t, []api.Line{{At: 5}, {At: at, Tokens: []api.Token{word(".endm")}}}, api.ErrForm, at)
	}
}

func TestD1Equ(t *testing.T) {
	want(t, ".equ n, 5", "", api.Equ{Name: "n", N: 5})
	want(t, ".equ n, 2+3\nnop\n.equ m, n*n\nmov #m,r1\n.equ N, -m", "2: nop\n4: mov # m , r1", api.Equ{Name: "n", N: 5}, api.Equ{Name: "m", N: 25}, api.Equ{Name: "N", N: -25})
	want(t, ".equ abcdefghij, 4294967295\n.equ _1, 0x80000000\n.equ z, 65536*65536", "", api.Equ{Name: "abcdefghij", N: -1}, api.Equ{Name: "_1", N: -1 << 31}, api.Equ{Name: "z"})
	want(t, ".equ n, a-a+1\n.equ a, n", "", api.Equ{Name: "n", N: 1}, api.Equ{Name: "a", N: 1})
	want(t, ".equ n, (((((~0)))))\nn: n n, n", "2: n : n n , n", api.Equ{Name: "n", N: -1})
	want(t, ".macro m\n.endm\n.equ m, 1\n.macro q\n.word q\n.endm\n.equ q, m\nq", "8: .word q", api.Equ{Name: "m", N: 1}, api.Equ{Name: "q", N: 1})
}

func TestD1EquThatIsWrong(t *testing.T) {
	for _, s := range []string{"", "n", "n,", "n 1", ",", "n 1 2", "n , ", "1", "n + 1", "n,1 2", "n,1)", "n,(1", "n,*", "n,1,", "n,1,2", "1, 1", "-, 1", ",,1", ", n, 1", "n: 1", "n = 1", "n (,) 1", "n, -m n"} {
		wrong(t, "nop\n.equ "+s, api.ErrForm, 2)
	}
	for _, s := range []string{".n, 1", "abcdefghijk, 1", "a.b, 1", "a/b, 1", "n, .x", "n, 1+abcdefghijk", ".x, 1 2", ".x, a", ".x, (", ".x, *"} {
		wrong(t, "nop\n.equ "+s, api.ErrName, 2)
	}
	for _, s := range []string{"n, 1+", "n, (", "n, -", "n, (1+"} {
		wrong(t, "nop\n.equ "+s, api.ErrEnd, 2)
	}
	for _, s := range []string{"n, a", "n, n", "n, a+1", "n, -a", "n, a*2", "n, a-b", "n, 1-a"} {
		wrong(t, "nop\n.equ "+s, api.ErrFit, 2)
	}
	wrong(t, ".equ n, -------1", api.ErrDeep, 1)
	wrong(t, ".equ n, 1\n.equ n, 1", api.ErrName, 2)
	wrong(t, ".equ n, 1\n.equ m, 1\n.equ k, 1\n.equ m, a b", api.ErrName, 4)
	wrong(t, ".equ n, m\n.equ m, 1", api.ErrFit, 1)
	for _, l := range [][]api.Token{
		{word(".equ"), word("n"), word(","), number(1)},
		{word(".equ"), word("n"), {Text: ","}, number(1)},
		{word(".equ"), word("n"), {Kind: api.TokNumber, Text: ","}, number(1)},
		{word(".equ"), {Text: "n"}, sign(","), number(1)},
		{word(".equ"), sign("n"), sign(","), number(1)},
		{word(".equ"), {Kind: 4, Text: "n"}, sign(","), number(1)},
		{word(".equ"), word("n"), sign(","), {}},
		{word(".equ"), word("n"), sign(","), {Kind: 9, N: 1, Text: "a"}},
	} {
		wrongLines(t, []api.Line{{At: 9, Tokens: l}}, api.ErrForm, 9)
	}
	wrongLines(t, []api.Line{{At: 9, Tokens: []api.Token{word(".equ"), word(""), sign(","), number(1)}}}, api.ErrName, 9)
}

func TestD1NumbersBehindHeads(t *testing.T) {
	for _, head := range []string{".rept", ".if"} {
		end := map[string]string{".rept": "\n.endr", ".if": "\n.endif"}[head]
		for s, err := range map[string]api.Errno{
			"": api.ErrEnd, "1+": api.ErrEnd, "(": api.ErrEnd, "-": api.ErrEnd,
			"1 2": api.ErrForm, "1,": api.ErrForm, ",1": api.ErrForm, "1 .x": api.ErrForm, "a b": api.ErrForm, "-a b": api.ErrForm, "(1": api.ErrForm, "#1": api.ErrForm, "()": api.ErrForm, "1 1+": api.ErrForm,
			".x": api.ErrName, "1*a.b": api.ErrName, ".x 2": api.ErrName, "abcdefghijk": api.ErrName,
			"((((((( 1": api.ErrDeep, "-------1": api.ErrDeep,
			"a": api.ErrFit, "n+a": api.ErrFit, "-a": api.ErrFit, "a*0": api.ErrFit, "m": api.ErrFit,
		} {
			wrong(t, ".equ n, 1\nnop\n"+head+" "+s+end+"\n.equ m, 1", err, 3)
		}
		want(t, ".equ n, 1\n"+head+" n*2-1\nnop"+end, "3: nop", api.Equ{Name: "n", N: 1})
		want(t, head+" a-a+(1)\nnop"+end, "2: nop")
		want(t, head+" 1\n.equ n, 0\n"+head+" n\nnop"+end+end+"\n"+head+" n\nrts"+end, "", api.Equ{Name: "n"})
	}
}

func TestD1EndsOfTheirOwn(t *testing.T) {
	want(t, ".rept 2\n.rept 1\na\n.endr\nb\n.rept 0\nc\n.endr\n.endr\nd", "3: a\n5: b\n3: a\n5: b\n10: d")
	want(t, ".if 1\n.if 0\na\n.endif\nb\n.if 1\nc\n.endif\n.endif\nd", "5: b\n7: c\n10: d")
	want(t, ".if 0\n.if 1\na\n.endif\nb\n.if 1\nc\n.endif\n.endif\nd", "10: d")
	want(t, ".macro m\n.macro n\na\n.endm\nb\n.endm\nm\nn", "7: b\n8: a")
	want(t, ".macro m\n.macro n\n.macro k\na\n.endm\n.endm\n.endm\nm\nn\nk", "10: a")
	want(t, ".rept 1\n.if 1\n.macro m\na\n.endm\n.endif\n.endr\nm", "8: a")
}

func TestD1KindsDoNotEndEachOther(t *testing.T) {
	want(t, ".if 0\n.rept 2\n.endm\n.macro\n.endr\n.endr x\n.endif", "")
	want(t, ".rept 0\n.if 2\n.else x\n.endm\n.macro\n.endif y\n.endr", "")
	want(t, ".macro m\n.if 2\n.else x\n.endr\n.rept\n.endif y\n.endm", "")
	wrong(t, ".if 1\n.rept 2\n.endif\n.endr", api.ErrEnd, 2)
	wrong(t, ".rept 1\nnop\n.if 1\n.endr\n.endif", api.ErrEnd, 3)
	wrong(t, ".rept 1\n.macro m\n.endr\n.endm", api.ErrEnd, 2)
	wrong(t, ".macro m\n.rept 1\n.endm\nnop\nm\n.endr", api.ErrEnd, 5)
	wrong(t, ".macro m\n.if 1\n.endm\n.rept 1\nm\n.endif\n.endr", api.ErrEnd, 5)
	wrong(t, ".macro m\n.endif\n.endm\n.if 1\nm\n.endif", api.ErrForm, 5)
}

func TestD1NoEnd(t *testing.T) {
	for _, s := range []string{".macro m", ".rept 2", ".if 1", ".macro", ".rept", ".rept a", ".if", ".if .x", ".macro 5", ".rept -1"} {
		head, _, _ := strings.Cut(s, " ")
		end := map[string]string{".macro": ".endm", ".rept": ".endr", ".if": ".endif"}[head]
		wrong(t, s, api.ErrEnd, 1)
		wrong(t, "nop\n"+s+"\nnop\n.else x", api.ErrEnd, 2)
		wrong(t, "nop\n"+s+"\n"+s+"\n"+end, api.ErrEnd, 2)
		wrong(t, "nop\n"+s+"\nx: "+end, api.ErrEnd, 2)
		wrong(t, "nop\n"+s+"\n"+end+"x", api.ErrEnd, 2)
		wrongLines(t, append(source(t, s), api.Line{At: 2, Tokens: []api.Token{{Kind: api.TokSign, Text: end}}}), api.ErrEnd, 1)
	}
}

func TestD1MoreBehindTheEnd(t *testing.T) {
	for _, more := range []string{"x", "1", ",", ".endr", "( 2 )"} {
		for _, s := range []string{".macro m\nnop\n.endm ", ".rept 2\nnop\n.endr ", ".rept 0\nnop\n.endr ", ".if 1\nnop\n.endif ", ".if 0\nnop\n.endif ", ".macro\nnop\n.endm ", ".rept a\nnop\n.endr ", ".if\nnop\n.endif ", ".rept 1\n.else y\n.endr ", ".rept 1\n.endif\n.endr "} {
			wrong(t, s+more, api.ErrForm, 3)
		}
		for _, n := range []string{"0", "1", "a", ""} {
			wrong(t, ".if "+n+"\nnop\n.else "+more+"\nnop\n.endif", api.ErrForm, 5)
			wrong(t, ".if "+n+"\nnop\n.else "+more+"\nnop\n.else\n.endif", api.ErrForm, 6)
		}
		want(t, ".if 1\nnop\n.else\n.else "+more+"\n.endif", "2: nop")
		want(t, ".if 1\nnop\n.else\n.endif\n.rept 0\n.else "+more+"\n.endr", "2: nop")
		want(t, ".if 0\n.if 1\n.else "+more+"\n.endif "+more+"\n.else\nnop\n.endif", "6: nop")
		wrong(t, ".if 1\n.if 1\n.else "+more+"\n.endif\n.else\nnop\n.endif", api.ErrForm, 4)
		wrong(t, ".macro m\n.if 1\n.else "+more+"\n.endif\n.endm\nm", api.ErrForm, 6)
	}
}

func TestD1EndsElsewhere(t *testing.T) {
	for _, s := range []string{".endm", ".endr", ".endif", ".else"} {
		wrong(t, s, api.ErrForm, 1)
		wrong(t, "nop\n"+s+" x y\n.endm", api.ErrForm, 2)
		wrong(t, ".rept 1\n.if 1\nnop\n.endif\n.endr\n"+s, api.ErrForm, 6)
		wrong(t, ".macro m a\na\n.endm\nm "+s, api.ErrForm, 4)
		if s != ".endr" {
			wrong(t, ".rept 1\n"+s+"\n.endr", api.ErrForm, 2)
		}
		if s != ".endif" && s != ".else" {
			wrong(t, ".if 1\n"+s+"\n.endif", api.ErrForm, 2)
			wrong(t, ".if 0\n.else\n"+s+"\n.endif", api.ErrForm, 3)
		}
	}
	wrong(t, ".if 0\n.else\n.else\n.endif", api.ErrForm, 3)
	wrong(t, ".if 0\n.else\nnop\n.else x\n.endif", api.ErrForm, 4)
	wrong(t, ".if 1\n.rept 1\n.else\n.endr\n.endif", api.ErrEnd, 2)
	wrong(t, ".if 1\n.rept 1\n.else\n.endr\n.endr", api.ErrEnd, 1)
}

func TestD1TheFirstFault(t *testing.T) {
	wrong(t, "nop\n.equ n\n.endm", api.ErrForm, 2)
	wrong(t, ".equ n, a\n.equ n", api.ErrFit, 1)
	wrong(t, ".rept 1\n.equ n, a\n.endr\n.endm", api.ErrFit, 2)
	wrong(t, ".rept 1\n.equ n, a\n.endr x", api.ErrForm, 3)
	wrong(t, ".rept 201\n.endm\n.endr\n.equ n", api.ErrRange, 1)
	wrong(t, ".rept 2\n.equ n, 1\n.endr", api.ErrName, 2)
	wrong(t, ".rept 2\n.macro m\n.endm\n.endr", api.ErrName, 2)
	wrong(t, ".macro m\n.endm x\n.equ n", api.ErrForm, 2)
	wrong(t, ".macro 5\n.endm\n.equ n, a", api.ErrForm, 1)
}

func TestD1HowManyLines(t *testing.T) {
	all := rows(api.MaxLines, "nop")
	if out, _, f := macro.Expand(source(t, all)); len(out) != api.MaxLines || f != (api.Fault{}) {
		t.Errorf("there are %v lines, and %v", len(out), f)
	}
	wrong(t, all+"\nnop", api.ErrMuch, api.MaxLines+1)
	wrong(t, all+"\n.equ n, 1\nnop\n.endm", api.ErrMuch, api.MaxLines+2)
	wrongLines(t, append(source(t, all), api.Line{At: -3}), api.ErrMuch, -3)
	for _, s := range []string{".equ n, 1", ".macro m\nnop\n.endm", ".rept 0\nnop\n.endr", ".if 0\nnop\n.endif", ".macro m\n.equ n, 1\n.endm\nm", ".rept 9\n.if 1\n.endif\n.endr"} {
		if out, _, f := macro.Expand(source(t, all+"\n"+s)); len(out) != api.MaxLines || f != (api.Fault{}) {
			t.Errorf("with %q there are %v lines, and %v", s, len(out), f)
		}
	}
	want(t, ".rept 200\nnop\n.endr", strings.TrimSuffix(strings.Repeat("2: nop\n", 200), "\n"))
	want(t, ".rept 20\n.rept 10\nnop\n.endr\n.endr", strings.TrimSuffix(strings.Repeat("3: nop\n", 200), "\n"))
	wrong(t, ".rept 200\nnop\n.endr\n.if 1\nnop\n.endif", api.ErrMuch, 5)
	wrong(t, ".rept 101\nnop\nrts\n.endr", api.ErrMuch, 2)
	wrong(t, "nop\n.rept 100\nnop\nrts\n.endr", api.ErrMuch, 4)
	wrong(t, ".macro m\nnop\n.endm\n.rept 200\nm\n.endr\nm", api.ErrMuch, 7)
	wrong(t, all+"\n.endm", api.ErrForm, api.MaxLines+1)
}

// nothing is n blocks of two lines each, of which one is looked at, and nothing comes.
func nothing(n int) string { return rows(n, ".if 0\n.endif") }

func TestD1HowManyAreLookedAt(t *testing.T) {
	if api.MaxLooked != 4000 {
		t.Fatal("these are for 4000")
	}
	want(t, nothing(4000), "")
	want(t, nothing(3999)+"\nnop", "7999: nop")
	wrong(t, nothing(4001), api.ErrMuch, 8001)
	for _, s := range []string{"nop", ".equ n, 1", ".equ n, 1 + 1\n.endr", ".rept 1\n.endr", ".macro m\n.endm"} {
		wrong(t, nothing(4000)+"\n"+s, api.ErrMuch, 8001)
	}
	want(t, rows(4000, ".if 0\nnop\n.endm\n.else\n.endif"), "")
	want(t, rows(4000, ".rept 200\n.endr"), "")
	wrongLines(t, append(source(t, nothing(4000)), api.Line{At: -9}), api.ErrMuch, -9)
}

func TestD1AgainOnesAreCounted(t *testing.T) {
	want(t, ".rept 199\n.rept 19\n.if 0\n.endif\n.endr\n.endr\n"+nothing(4000-(1+199*20)), "")
	wrong(t, ".rept 199\n.rept 19\n.if 0\n.endif\n.endr\n.endr\n"+nothing(4000-(1+199*20)+1), api.ErrMuch, 7+2*19)
	wrong(t, ".rept 200\n.rept 19\n.if 0\n.else\n.endif\n.endr\n.endr", api.ErrMuch, 3)
	wrong(t, ".rept 200\n.rept 200\n.rept 200\n.endr\n.endr\n.endr", api.ErrMuch, 3)
	want(t, ".rept 200\n.rept 200\n.endr\n.endr\n"+nothing(4000-201), "")
	wrong(t, ".rept 200\n.rept 200\n.endr\n.endr\n"+nothing(4000-201+1), api.ErrMuch, 5+2*(4000-201))
	want(t, ".if 1\n.if 0\na\na\n.else\n.endif\n.else\nb\nb\n.endif\n"+nothing(4000-2), "")
	wrong(t, ".if 1\n.if 0\na\na\n.else\n.endif\n.else\nb\nb\n.endif\n"+nothing(4000-1), api.ErrMuch, 11+2*(4000-2))
}

func TestD1LookedAtInMacros(t *testing.T) {
	// Two macros, and nine times a line, with a hundred times a call, an .if, and two calls in it.
	calls := ".macro m a\na\n.if 0\nnop\n.endif\na\n.endm\n.macro q\n.endm\n" + rows(9, ".rept 100\nm q\n.endr") + "\n"
	left := 4000 - 2 - 9*(1+100*4)
	want(t, calls+nothing(left), "")
	wrong(t, calls+nothing(left+1), api.ErrMuch, 10+27+2*left)
	wrong(t, calls+".rept 200\nm q\n.endr", api.ErrMuch, 10+27+1)
	// Of a macro's lines those of which nothing is left are not looked at.
	drop := ".macro m a b\na\n.if 0\n.endif\nb\na b\n.endm\n" + rows(9, ".rept 100\nm ,\n.endr") + "\n"
	left = 4000 - 1 - 9*(1+100*2)
	want(t, drop+nothing(left), "")
	wrong(t, drop+nothing(left+1), api.ErrMuch, 8+27+2*left)
}
