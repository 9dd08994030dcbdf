package macro_test

import (
	"math"
	"reflect"
	"strconv"
	"strings"
	"testing"

	"platelayer/api"
	"platelayer/macro"
	"platelayer/scan"
)

func TestD2Calls(t *testing.T) {
	want(t, ".macro m\nnop\nrts\n.endm", "")
	want(t, ".macro m\n.endm\nm\nnop", "4: nop")
	want(t, ".macro m\nnop\nrts\n.endm\nm\nadd r1,r2\nm", "5: nop\n5: rts\n6: add r1 , r2\n7: nop\n7: rts")
	want(t, ".macro add2 x, y\nadd x,y\nadd x,y\n.endm\nadd2 #1,r2\nadd2 r3 , r4", "5: add # 1 , r2\n5: add # 1 , r2\n6: add r3 , r4\n6: add r3 , r4")
	want(t, ".macro m a\n.word a*2,a\n.endm\nm 1+2\nm (3)", "4: .word 1 + 2 * 2 , 1 + 2\n5: .word ( 3 ) * 2 , ( 3 )")
	want(t, ".macro m a b c d\na b c d\nd\n.endm\nm 1,2,3,4", "5: 1 2 3 4\n5: 4")
	want(t, "m 1\n.macro m\n.endm\nx: m\nm", "1: m 1\n4: x : m")
	want(t, ".macro nop\nrts\n.endm\nnop", "4: rts")
	want(t, ".macro m a\na b\n.endm\nm : b", "4: : b b")
	want(t, ".macro m a\na\n.endm\nm: nop", "4: : nop")
}

func TestD2WhatStandsForParameters(t *testing.T) {
	want(t, ".macro m a b\na b a\n.endm\nm b,a", "4: b a b")
	want(t, ".macro m a\na: a aa A .a a/ a1 0xa #a,(a)\n.endm\nm 5", "4: 5 : 5 aa A .a a/ a1 10 # 5 , ( 5 )")
	want(t, ".macro m m\nm m\n.endm\nm nop", "4: nop nop")
	want(t, ".macro m a\na\n.endm\nm rept\nm .word 2", "4: rept\n5: .word 2")
	want(t, ".macro m a\n.word a\n.endm\nm m", "4: .word m")
	want(t, ".macro m a b\n.word a(b)\n.endm\nm (1,2)", "4: .word ( 1 ( 2 ) )")
	l := []api.Line{
		{At: 1, Tokens: []api.Token{word(".macro"), word("m"), word("a")}},
		{At: 2, Tokens: []api.Token{word("x"), sign("a"), {Text: "a"}, {Kind: 9, Text: "a"}, {Kind: api.TokNumber, N: 4, Text: "a"}, {Kind: api.TokWord, N: 3, Text: "a"}}},
		{At: 3, Tokens: []api.Token{word(".endm")}},
		{At: -4, Tokens: []api.Token{word("m"), word(","), {Kind: 7, N: 8, Text: ","}}},
	}
	want := []api.Line{{At: -4, Tokens: append(append([]api.Token(nil), l[1].Tokens[:5]...), l[3].Tokens[1:]...)}}
	if out, _, f := macro.Expand(l); f != (api.Fault{}) || !reflect.DeepEqual(out, want) {
		t.Errorf("%v is %v %v", l, out, f)
	}
}

func TestD2HeadsThatStandForParameters(t *testing.T) {
	q := ".macro q a b\n.word a: b\n.endm\n"
	want(t, q+".macro m x\nx 5,x\nx,x 5\nx , \n.endm\nm q 1", "9: .word 1 5 : q 1\n9: .word 1 : q 1 5\n9: .word 1 :")
	want(t, q+".macro m x\nk x 5\n.endm\n.macro k x\nx 7,8\nx,x\n.endm\nm q 1", "11: .word 1 5 7 : 8\n11: .word 1 5 : q 1 5")
	want(t, q+".macro m x\nk x\n.endm\n.macro k x\nx 7,x\n.endm\nm q 1", "10: .word 1 7 : q 1")
	want(t, ".macro m x\nx +1\nnop\n.endr\n.endm\nm .rept 1", "6: nop\n6: nop")
	want(t, ".macro m x\nx -1\nrts\n.else\nnop\n.endif\n.endm\nm .if 1", "8: nop")
	want(t, ".macro m x\nx , 2\n.endm\nm .equ n", "", api.Equ{Name: "n", N: 2})
	want(t, ".macro m x y\nx c\na b c\ny\n.endm\nm .macro k a b,.endm\nk 1,2,3", "7: 1 2 3")
	wrong(t, ".macro m x\n.macro x k\nnop\n.endm\n.endm\nm q 1", api.ErrForm, 6)
	wrong(t, ".macro m x\nk x\n.endm\n.macro k x\n.macro x z\n.endm\n.endm\nm q 1", api.ErrForm, 8)
	wrong(t, ".macro m x\n.rept 1\nx\n.endm\nm .endr 5", api.ErrForm, 5)
	wrong(t, ".macro m x\n.rept 1\nx x\n.endm\nm .endr", api.ErrForm, 5)
	wrong(t, ".macro m x\n.rept 1\nx x\n.endm\nm .endr 5", api.ErrForm, 5)
}

func TestD2HowManyAreHandedIn(t *testing.T) {
	params := []string{"", " a", " a b", " a,b,c", " a b c, d"}
	args := []string{"", " 1", " ,", " 1,,2", " 1 2,3 4,5,", " ,,,,"}
	for i, p := range params {
		for j, a := range args {
			s := ".macro m" + p + "\nnop\n.endm\nrts\nm" + a
			if i == j {
				want(t, s, "4: rts\n5: nop")
			} else {
				wrong(t, s, api.ErrMany, 5)
			}
		}
	}
	wrong(t, ".macro m\n.endm\n.rept 1\nm m\n.endr", api.ErrMany, 4)
	wrong(t, ".macro m a\nm\n.endm\nm 1", api.ErrMany, 4)
	wrong(t, ".macro m a\nq a\n.endm\n.macro q a\n.endm\nm", api.ErrMany, 6)
	wrong(t, ".macro m a\nq a\n.endm\n.macro q a\n.endm\nm 1\nnop\n.equ n, 1\nm ,", api.ErrMany, 9)
	wrong(t, ".macro m\n.endm\nm :", api.ErrMany, 3)
}

func TestD2NothingStandsForAParameter(t *testing.T) {
	want(t, ".macro m a b\na\nnop\na b\nb\na , b\n.endm\nm ,", "8: nop\n8: ,")
	want(t, ".macro m a b\na\nnop a\na b\nb x\n.endm\nm ,1", "7: nop\n7: 1\n7: 1 x")
	wrong(t, ".macro m a b\nq a b\n.endm\n.macro q x\nnop x\n.endm\nm ,", api.ErrMany, 7)
	want(t, ".macro m a b\nq a b\n.endm\n.macro q\nnop\n.endm\nm ,", "7: nop")
	want(t, ".macro m a b\na .rept 2\nb nop\n.endr a\n.endm\nm ,", "6: nop\n6: nop")
	want(t, ".macro m a b\na .if b 0\nnop\n.else b a\nrts\n.endif a\n.endm\nm ,", "8: rts")
	l := source(t, ".macro m\nnop\nx\nrts\n.endm\nm")
	l[2].Tokens = nil
	if out, _, f := macro.Expand(l); told(out) != "6: nop\n6: rts" || f != (api.Fault{}) {
		t.Errorf("a line without tokens is %q %v", told(out), f)
	}
}

func TestD2LinesWithoutTokensElsewhere(t *testing.T) {
	l := source(t, ".rept 2\nx\n.endr\n.if 1\nx\n.endif")
	l[1].Tokens, l[4].Tokens = nil, []api.Token{}
	if out, _, f := macro.Expand(l); told(out) != "2: \n2: \n5: " || f != (api.Fault{}) {
		t.Errorf("they are %q %v", told(out), f)
	}
}

func TestD2MacroIsWrong(t *testing.T) {
	for _, s := range []string{"", ",", ", m", ", m a", ",,", "1", "m 1", "m a 1", "m a:", "m (a)", "m a + b", "m 1 .x", "m a a 1", ".x 1", "m a b c d e 1", "a #", "m m 1", "1 m"} {
		wrong(t, "nop\n.macro "+s+"\n.endm", api.ErrForm, 2)
	}
	for _, s := range []string{".m", "abcdefghijk", "m .a", "m a.b", "m a abcdefghijk", "a/b", "m a a", "m a b a", "m a, a", "m m m", "m a b c d d", "m a b c d .e", ".m a a", "q", "q a", "q a b c d e"} {
		wrong(t, ".macro q\n.endm\n.macro "+s+"\n.endm", api.ErrName, 3)
	}
	for _, s := range []string{"m a b c d e", "m a, b, c, d, e", "m a b c d e f", "m m a b c d"} {
		wrong(t, "nop\n.macro "+s+"\n.endm", api.ErrMany, 2)
	}
	wrong(t, ".macro m\n.endm\n.macro m a\n.endm", api.ErrName, 3)
	wrong(t, ".macro m\n.macro m\n.endm\n.endm\nm", api.ErrName, 5)
	for _, kind := range []int{0, 4, api.TokNumber, api.TokSign, -1} {
		wrongLines(t, []api.Line{{At: 8, Tokens: []api.Token{word(".macro"), word("m"), {Kind: kind, Text: "a"}}}, {At: 9, Tokens: []api.Token{word(".endm")}}}, api.ErrForm, 8)
	}
	wrongLines(t, []api.Line{{At: 8, Tokens: []api.Token{word(".macro"), word("m"), word(",")}}, {At: 9, Tokens: []api.Token{word(".endm")}}}, api.ErrName, 8)
	wrongLines(t, []api.Line{{At: 8, Tokens: []api.Token{word(".macro"), word("")}}, {At: 9, Tokens: []api.Token{word(".endm")}}}, api.ErrName, 8)
}

func TestD2CommasOfMacro(t *testing.T) {
	for _, s := range []string{"m a b c", "m,a b,c", "m, a, b, c", "m a,b c"} {
		want(t, ".macro "+s+"\na b c\n.endm\nm 1,2,3", "4: 1 2 3")
	}
	want(t, ".macro abcdefghij _ a1 B _9\n_9 B a1 _\n.endm\nabcdefghij 1,2,3,4", "4: 4 3 2 1")
}

func TestD2MacrosInMacros(t *testing.T) {
	want(t, ".macro a\nb\nb\n.endm\n.macro b\nc 1\n.endm\n.macro c x\n.word x\n.endm\na", "11: .word 1\n11: .word 1")
	want(t, ".macro def n v\n.macro n x\n.word x+v\n.endm\n.endm\ndef m, 3\ndef k, x\nm 1\nk 2", "8: .word 1 + 3\n9: .word 2 + 2")
	want(t, ".macro o a\n.macro i b\na b\n.endm\n.endm\no b a\ni 5", "7: 5 a 5")
	wrong(t, ".macro o a\n.macro i a\na\n.endm\n.endm\nnop\no 5", api.ErrForm, 7)
	want(t, ".macro o a\n.macro i a\na\n.endm\n.endm\no b\ni 5", "7: 5")
	want(t, ".macro m x y\nx q\nnop\ny\n.endm\nm .macro,.endm\nq", "7: nop")
	wrong(t, ".macro m x\nx q\nnop\n.endm\nm .macro\n.endm", api.ErrEnd, 5)
	want(t, ".macro m x\n.rept 2\nnop\nx\n.endm\nm .endr", "6: nop\n6: nop")
	want(t, ".macro m x y\nx 0\nnop\n.else\nrts\ny\n.endm\nm .if,.endif", "8: rts")
	want(t, ".macro m x\nx\n.endm\nm m m nop", "4: nop")
	want(t, ".macro m x y\nx,y\n.endm\nm .equ n, 5+5", "", api.Equ{Name: "n", N: 10})
	wrong(t, ".macro m x\nx\n.endm\nm .equ n 5", api.ErrForm, 4)
}

func TestD2Rept(t *testing.T) {
	want(t, ".rept 3\nnop\n.rept 2\nrts\n.endr\n.endr", rows(3, "2: nop\n4: rts\n4: rts"))
	want(t, ".rept 0\n.endm\n.equ n\n.endr\n.rept 1\nnop\n.endr", "6: nop")
	want(t, ".rept 200\n.endr\n.rept 0xfe-255+1\nnop\n.endr", "")
	want(t, ".rept -1+2\nnop\n.endr", "2: nop")
	for _, s := range []string{"-1", "201", "200+1", "-200", "0x7fffffff", "0x80000000", "0xffffffff", "~0", "100000"} {
		wrong(t, "nop\n.rept "+s+"\nnop\n.endr", api.ErrRange, 2)
	}
	want(t, ".equ n, 1\n.rept n+1\nm\n.endr", "3: m\n3: m", api.Equ{Name: "n", N: 1})
	want(t, ".macro m n\n.rept n\nadd #n,r1\n.endr\n.endm\nm 2", "6: add # 2 , r1\n6: add # 2 , r1")
	want(t, ".macro m x\nadd #x,r1\n.endm\n.rept 2\nm 7\n.endr", "5: add # 7 , r1\n5: add # 7 , r1")
}

func TestD2If(t *testing.T) {
	for s, yes := range map[string]bool{"1": true, "0": false, "-1": true, "2-2": false, "0x80000000": true, "65536*65536": false, "200": true, "a-a": false, "~0": true} {
		one, other := "2: a", "4: b"
		if !yes {
			one, other = "", "4: b"
		}
		want(t, ".if "+s+"\na\n.endif", one)
		if yes {
			other = "2: a"
		}
		want(t, ".if "+s+"\na\n.else\nb\n.endif", other)
	}
	want(t, ".if 1\na\nb\n.else\n.endm\n.endif\nc", "2: a\n3: b\n7: c")
	want(t, ".if 0\n.endm\n.equ\n.else\na\nb\n.endif\nc", "5: a\n6: b\n8: c")
	want(t, ".if 1\n.if 0\na\n.else\nb\n.endif\n.else\nc\n.endif", "5: b")
	want(t, ".if 0\n.if 0\na\n.else\nb\n.endif\n.else\nc\n.if 0\n.else\nd\n.endif\n.endif", "8: c\n11: d")
	want(t, ".if 1\n.else\n.endif\n.if 0\n.else\n.endif\n.if 1\n.endif", "")
	want(t, ".if 1\n.equ n, 1\n.else\n.equ n, 2\n.endif\n.if 0\n.equ m, 1\n.else\n.equ m, 2\n.endif", "", api.Equ{Name: "n", N: 1}, api.Equ{Name: "m", N: 2})
	want(t, ".macro m n\n.if n\nnop\nm n-1\n.endif\n.endm\nm 2", "7: nop\n7: nop")
}

// nested is inner, within n blocks.
func nested(n int, begin, inner, end string) string {
	return strings.Repeat(begin+"\n", n) + inner + strings.Repeat("\n"+end, n)
}

func TestD2HowDeep(t *testing.T) {
	if api.MaxDeep != 6 {
		t.Fatal("these are for 6")
	}
	for begin, end := range map[string]string{".rept 1": ".endr", ".if 1": ".endif", ".if 0\n.else": ".endif"} {
		height := strings.Count(begin, "\n") + 1
		want(t, nested(6, begin, "nop", end), strconv.Itoa(6*height+1)+": nop")
		wrong(t, nested(7, begin, "nop", end), api.ErrDeep, 7*height+1)
		wrong(t, nested(8, begin, "nop", end), api.ErrDeep, 7*height+1)
		wrong(t, nested(7, begin, ".endm", end), api.ErrDeep, 7*height+1)
		wrong(t, nested(7, begin, "", end), api.ErrDeep, 0)
		wrong(t, nested(6, begin, ".if 0\nnop\n.endif", end), api.ErrDeep, 0)
		wrong(t, nested(6, begin, ".if 1\n.else\nnop\n.endif", end), api.ErrDeep, 0)
		wrong(t, nested(6, begin, ".rept 3\n.endr", end), api.ErrDeep, 0)
		want(t, nested(6, begin, ".macro m\nnop\n.endm\n.equ n, 1", end)+"\nm", strconv.Itoa(6*height+4+6+1)+": nop", api.Equ{Name: "n", N: 1})
		wrong(t, "nop\n"+nested(6, begin, "nop\n.if 1\nrts\n.endif", end), api.ErrDeep, 6*height+4)
		wrong(t, nested(6, begin, ".rept 201\n.endr", end), api.ErrRange, 6*height+1)
		wrong(t, nested(6, begin, ".if a\n.endif", end), api.ErrFit, 6*height+1)
	}
	want(t, nested(6, ".rept 1", ".rept 0\nnop\n.endr", ".endr"), "")
	want(t, rows(9, ".rept 1\nnop\n.endr"), told(source(t, rows(9, "\nnop\n"))))
}

func TestD2HowDeepCallsAre(t *testing.T) {
	wrong(t, ".macro m\nm\n.endm\nm", api.ErrDeep, 4)
	wrong(t, ".macro m\nnop\nm\n.endm\nrts\nm", api.ErrDeep, 6)
	wrong(t, ".macro m n\n.if n\nnop\nm n-1\n.endif\n.endm\nm 5", api.ErrDeep, 7)
	wrong(t, ".macro a\nb\n.endm\n.macro b\na\n.endm\n\na", api.ErrDeep, 8)
	chain := ""
	for i := range 7 {
		chain += ".macro m" + strconv.Itoa(i) + " x\nm" + strconv.Itoa(i+1) + " x\n.endm\n"
	}
	want(t, chain+"m1 5", "22: m7 5")
	wrong(t, chain+"m0 5", api.ErrDeep, 22)
	wrong(t, chain+".rept 1\nm1 5\n.endr", api.ErrDeep, 23)
	empty := ".macro m a\na\n.endm\n.macro q\n.endm\n"
	wrong(t, empty+nested(6, ".rept 1", "q", ".endr"), api.ErrDeep, 0)
	wrong(t, empty+nested(6, ".rept 1", "m", ".endr"), api.ErrMany, 12)
	wrong(t, strings.Replace(empty, "m a", "m a b", 1)+nested(6, ".rept 1", "m ,", ".endr"), api.ErrDeep, 0)
	wrong(t, empty+nested(6, ".rept 1", "m nop", ".endr"), api.ErrDeep, 12)
	want(t, empty+nested(5, ".rept 1", "m nop\nq", ".endr"), "11: nop")
	want(t, empty+nested(4, ".rept 1", "m q\nm nop", ".endr"), "11: nop")
	wrong(t, empty+nested(5, ".rept 1", "m q", ".endr"), api.ErrDeep, 0)
}

func TestD2ParametersThatGrow(t *testing.T) {
	many := strings.TrimSpace(strings.Repeat("a ", 39))
	wrong(t, ".macro m a\nm "+many+"\n.endm\nm 1", api.ErrDeep, 4)
	wrong(t, ".macro m a\n"+many+"\n.endm\nm m", api.ErrDeep, 4)
	wrong(t, ".macro m a b\nm "+many[:70]+" , b b\n.endm\nm 1,2", api.ErrDeep, 4)
	chain := ""
	for i := range 5 {
		chain += ".macro m" + strconv.Itoa(i) + " a\nm" + strconv.Itoa(i+1) + " " + many[:75] + "\n.endm\n"
	}
	want(t, chain+".macro m5 a\nnop\n.endm\n.rept 1\nnop\n.endr\nm0 1", "20: nop\n22: nop")
	wrong(t, chain+".macro m5 a\na\n.endm\n.rept 1\nm0 1\n.endr", api.ErrDeep, 20)
	out, _, f := macro.Expand(source(t, ".macro m a\nq a a a\n.endm\n.macro q a\na:a a\n.endm\nm x y"))
	if x := "x y x y x y"; f != (api.Fault{}) || told(out) != "7: "+x+" : "+x+" "+x {
		t.Errorf("it is %q %v", told(out), f)
	}
}

func TestD2ManyLinesAndTokensEnd(t *testing.T) {
	wrong(t, strings.Repeat(".if 1\n", 1<<16), api.ErrEnd, 1)
	wrong(t, nested(1<<16, ".if 1", "nop", ".endif"), api.ErrDeep, 8)
	wrong(t, nested(1<<16, ".macro m", "nop", ".endm")+"\n"+"m", api.ErrName, 2<<16+2)
	head := []api.Token{word(".macro"), word("m")}
	call := []api.Token{word("m")}
	for i := range 1 << 16 {
		head = append(head, word("p"+strconv.Itoa(i)), sign(","))
		call = append(call, number(i), sign(","))
	}
	end := api.Line{At: 2, Tokens: []api.Token{word(".endm")}}
	wrongLines(t, []api.Line{{At: 1, Tokens: head}, end}, api.ErrMany, 1)
	wrongLines(t, []api.Line{{At: 1, Tokens: append(head, word("p7"))}, end}, api.ErrName, 1)
	wrongLines(t, []api.Line{{At: 1, Tokens: head[:4]}, end, {At: 3, Tokens: call}}, api.ErrMany, 3)
	if out, _, f := macro.Expand([]api.Line{{At: 3, Tokens: call}}); f != (api.Fault{}) || len(out) != 1 || !reflect.DeepEqual(out[0].Tokens, call) {
		t.Errorf("a long line is %v lines, %v", len(out), f)
	}
}

func TestD2ArgumentsAreOnlyRead(t *testing.T) {
	room := source(t, ".macro m a\na a\n.rept 2\n.word a\n.endr\n.endm\nm 5\nnop\n.equ n, 3\n.endm\n.endm")
	for i := range room {
		room[i].Tokens = append(room[i].Tokens, word(".endm"), word("x"))[:len(room[i].Tokens)]
	}
	before := scan.Own(room)
	l := room[:len(room)-2]
	first, equs, f := macro.Expand(l)
	again, _, _ := macro.Expand(l)
	if f != (api.Fault{}) || told(first) != "7: 5 5\n7: .word 5\n7: .word 5\n8: nop" || len(equs) != 1 {
		t.Fatalf("it is %q %v %v", told(first), equs, f)
	}
	if !reflect.DeepEqual(scan.Own(room), before) {
		t.Errorf("the argument is %q behind it", told(room))
	}
	for i := range room {
		if x := room[i].Tokens; x[:len(x)+2][len(x)] != word(".endm") || x[:len(x)+2][len(x)+1] != word("x") {
			t.Errorf("the room behind line %v is %v", i, x[:len(x)+2])
		}
		clear(room[i].Tokens)
	}
	if !reflect.DeepEqual(first, again) {
		t.Errorf("it is %q behind a change of the argument", told(first))
	}
}

func TestD2AnswersShareNothing(t *testing.T) {
	l := source(t, ".macro m a\na a\na a\n.endm\n.rept 2\nm 5\nnop\n.endr\n.equ n, 1\n.equ m, 2")
	before := scan.Own(l)
	out, equs, _ := macro.Expand(l)
	again, equsAgain, _ := macro.Expand(l)
	for i := range out {
		kept := scan.Own(out[i+1:])
		full := out[i].Tokens[:cap(out[i].Tokens)]
		for j := range full {
			full[j] = api.Token{Kind: math.MaxInt}
		}
		if !reflect.DeepEqual(scan.Own(out[i+1:]), kept) {
			t.Errorf("a change of line %v changes others", i)
		}
	}
	clear(equs[:cap(equs)])
	if !reflect.DeepEqual(scan.Own(l), before) || told(again) != "6: 5 5\n6: 5 5\n7: nop\n6: 5 5\n6: 5 5\n7: nop" || len(equsAgain) != 2 || equsAgain[1].N != 2 {
		t.Errorf("a change of an answer changes %q or %q", told(l), told(again))
	}
}
