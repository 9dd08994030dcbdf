package expr_test

import (
	"math"
	"reflect"
	"strings"
	"testing"

	"platelayer/api"
	"platelayer/expr"
	"platelayer/scan"
)

func num(n int) api.Expr { return api.Expr{Kind: api.ExNumber, N: n} }

func name(s string) api.Expr { return api.Expr{Kind: api.ExName, Name: s} }

func of(kind int, kids ...api.Expr) api.Expr { return api.Expr{Kind: kind, Kids: kids} }

// between is the signs between two, those of one strength in one row, the strongest first.
var between = [][]struct {
	sign string
	kind int
}{
	{{"*", api.ExMul}},
	{{"+", api.ExAdd}, {"-", api.ExSub}},
	{{"<<", api.ExLeft}, {">>", api.ExRight}},
	{{"&", api.ExAnd}},
	{{"|", api.ExOr}},
}

// tokens is the tokens of a text.
func tokens(t *testing.T, s string) []api.Token {
	t.Helper()
	l, err := scan.Tokens(s)
	if err != api.OK {
		t.Fatalf("%q has no tokens: %v", s, err)
	}
	return l
}

// same holds expressions against each other; nil and empty Kids are the same.
func same(a, b api.Expr) bool {
	if a.Kind != b.Kind || a.N != b.N || a.Name != b.Name || len(a.Kids) != len(b.Kids) {
		return false
	}
	for i := range a.Kids {
		if !same(a.Kids[i], b.Kids[i]) {
			return false
		}
	}
	return true
}

// wantParsed fails if l begins with another expression, or one of more or fewer tokens.
func wantParsed(t *testing.T, l []api.Token, want api.Expr, count int) {
	t.Helper()
	if e, n, err := expr.Parse(l); err != api.OK || n != count || !same(e, want) {
		t.Errorf("Parse(%v) is %v %v %v, not %v %v", l, e, n, err, want, count)
	}
}

// wantExpr fails if all of a text is not that expression.
func wantExpr(t *testing.T, s string, want api.Expr) {
	t.Helper()
	l := tokens(t, s)
	wantParsed(t, l, want, len(l))
}

// wantError fails if l begins with an expression, or has another error.
func wantError(t *testing.T, l []api.Token, want api.Errno) {
	t.Helper()
	if e, n, err := expr.Parse(l); err != want || n != 0 || !same(e, api.Expr{}) {
		t.Errorf("Parse(%v) is %v %v %v, not %v", l, e, n, err, want)
	}
}

func TestC1NumbersAndNames(t *testing.T) {
	wantExpr(t, "0", num(0))
	wantExpr(t, "0x10", num(16))
	wantExpr(t, "2147483647", num(1<<31-1))
	wantExpr(t, "2147483648", num(-1<<31))
	wantExpr(t, "4294967295", num(-1))
	wantExpr(t, "a", name("a"))
	wantExpr(t, "_9", name("_9"))
	wantExpr(t, "r1", name("r1"))
	wantExpr(t, "abcdefghij", name("abcdefghij"))
	for n, want := range map[int]int{-1: -1, 1 << 32: 0, 1<<33 + 5: 5, -1<<31 - 1: 1<<31 - 1, math.MinInt: 0, math.MaxInt: -1} {
		wantParsed(t, []api.Token{{Kind: api.TokNumber, N: n, Text: "+"}}, num(want), 1)
	}
	wantParsed(t, []api.Token{{Kind: api.TokWord, N: 7, Text: "b"}}, name("b"), 1)
}

func TestC1EachStrengthAgainstEach(t *testing.T) {
	a, b, c := name("a"), num(2), name("c")
	for i, left := range between {
		for _, x := range left {
			wantExpr(t, "a"+x.sign+"2", of(x.kind, a, b))
			for j, right := range between {
				for _, y := range right {
					want := of(y.kind, of(x.kind, a, b), c)
					if j < i {
						want = of(x.kind, a, of(y.kind, b, c))
					}
					wantExpr(t, "a"+x.sign+"2"+y.sign+"c", want)
					wantExpr(t, "(a"+x.sign+"2)"+y.sign+"c", of(y.kind, of(x.kind, a, b), c))
					wantExpr(t, "a"+x.sign+"(2"+y.sign+"c)", of(x.kind, a, of(y.kind, b, c)))
				}
			}
		}
	}
}

func TestC1AllStrengthsAtOnce(t *testing.T) {
	one := of(api.ExAnd, of(api.ExRight, of(api.ExSub, of(api.ExMul, num(1), num(2)), num(3)), num(4)), num(5))
	wantExpr(t, "1*2-3>>4&5|6", of(api.ExOr, one, num(6)))
	other := of(api.ExAnd, num(2), of(api.ExLeft, num(3), of(api.ExAdd, num(4), of(api.ExMul, num(5), num(6)))))
	wantExpr(t, "1|2&3<<4+5*6", of(api.ExOr, num(1), other))
	wantExpr(t, "1*2*3", of(api.ExMul, of(api.ExMul, num(1), num(2)), num(3)))
	wantExpr(t, "1-2+3-4", of(api.ExSub, of(api.ExAdd, of(api.ExSub, num(1), num(2)), num(3)), num(4)))
}

func TestC1SignsBeforeOne(t *testing.T) {
	wantExpr(t, "-a", of(api.ExNeg, name("a")))
	wantExpr(t, "~1", of(api.ExNot, num(1)))
	wantExpr(t, "-~-1", of(api.ExNeg, of(api.ExNot, of(api.ExNeg, num(1)))))
	wantExpr(t, "-(1)", of(api.ExNeg, num(1)))
	wantExpr(t, "-4294967295", of(api.ExNeg, num(-1)))
	for _, row := range between {
		for _, x := range row {
			wantExpr(t, "-a"+x.sign+"~b", of(x.kind, of(api.ExNeg, name("a")), of(api.ExNot, name("b"))))
			wantExpr(t, "~(a"+x.sign+"b)", of(api.ExNot, of(x.kind, name("a"), name("b"))))
			wantExpr(t, "-(~a"+x.sign+"-b)", of(api.ExNeg, of(x.kind, of(api.ExNot, name("a")), of(api.ExNeg, name("b")))))
		}
	}
}

func TestC1BracketsStayNowhere(t *testing.T) {
	wantExpr(t, "(1)", num(1))
	wantExpr(t, "((a))", name("a"))
	wantExpr(t, "(1)+(((a)))", of(api.ExAdd, num(1), name("a")))
	wantExpr(t, "(1|2)*(3|4)", of(api.ExMul, of(api.ExOr, num(1), num(2)), of(api.ExOr, num(3), num(4))))
	wantExpr(t, "((1+2)*3)", of(api.ExMul, of(api.ExAdd, num(1), num(2)), num(3)))
}

func TestC1AsLongAsMayBe(t *testing.T) {
	for _, behind := range []string{"", ")", ",", "2", "a", "(", "~", "~1", "#1", "@r1", ":", "=", ".x", ", +", ")*2"} {
		l := tokens(t, "1 + a * 3 "+behind)
		wantParsed(t, l, of(api.ExAdd, num(1), of(api.ExMul, name("a"), num(3))), 5)
		l = tokens(t, "(7) "+behind)
		if behind != "" {
			wantParsed(t, l, num(7), 3)
		}
	}
	for _, behind := range []api.Token{{}, {Text: "+"}, {Kind: api.TokWord, Text: "+"}, {Kind: api.TokNumber, Text: "*"}, {Kind: 4, Text: "-"}, {Kind: -1, Text: "&"}, {Kind: api.TokSign}, {Kind: api.TokSign, Text: "++"}, {Kind: api.TokSign, Text: "<"}} {
		wantParsed(t, append(tokens(t, "1"), behind, api.Token{Kind: api.TokNumber, N: 2}), num(1), 1)
	}
}

func TestC1HowDeep(t *testing.T) {
	combine([]string{"-", "~", "("}, api.MaxDeep+2, func(s string) {
		ends := strings.Repeat(")", strings.Count(s, "("))
		for _, one := range []string{"1", "a", "1+2", ".x", "", ")", "*", "1 2"} {
			l := tokens(t, s+one+ends)
			e, n, err := expr.Parse(l)
			if len(s) > api.MaxDeep {
				wantError(t, l, api.ErrDeep)
			} else if one == "1" && (err != api.OK || n != len(l) || strings.Count(expr.Print(e), " ") != len(s)-len(ends)) {
				t.Errorf("Parse(%q) is %v %v %v", s+one+ends, e, n, err)
			} else if err == api.ErrDeep {
				t.Errorf("Parse(%q) is too deep", s+one+ends)
			}
		}
	})
	six := of(api.ExNot, num(1))
	wantExpr(t, "((((( ~1 )))))", six)
	wantExpr(t, "((((( ~1 ))))) + ((((( ~1 )))))", of(api.ExAdd, six, six))
	wantError(t, tokens(t, "((((( ~1 + ~~1 )))))"), api.ErrDeep)
	wantError(t, tokens(t, strings.Repeat("-", 80)), api.ErrDeep)
	many := make([]api.Token, 1<<16)
	for i := range many {
		many[i] = api.Token{Kind: api.TokSign, Text: "("}
	}
	wantError(t, many, api.ErrDeep)
}

func TestC1EachError(t *testing.T) {
	wantError(t, nil, api.ErrEnd)
	wantError(t, []api.Token{}, api.ErrEnd)
	for _, s := range []string{"1+", "(", "-", "~", "(1+", "-(", "1*2|", "((1)&", "1<<-"} {
		wantError(t, tokens(t, s), api.ErrEnd)
	}
	for _, s := range []string{".x", "abcdefghijk", "a.b", "cmp/eq", "(.x", "-.x", "1+.x", "(1+.x", "1*(2-~a/)"} {
		wantError(t, tokens(t, s), api.ErrName)
	}
	for _, s := range []string{"*2", "+1", ")", "#1", "@r1", ",", ":", "=1", "<<", ">> 1", "&", "|", "1+*2", "1**2", "()", "(1", "(1,", "(1 2)", "((1)", "-(1", "(1+2", "1+(2*3", "(a b", "(1 .x)", "-)", "1+)"} {
		wantError(t, tokens(t, s), api.ErrForm)
	}
	for _, l := range []api.Token{{}, {Text: "a"}, {N: 1}, {Kind: 4, Text: "a"}, {Kind: -1, N: 1}, {Kind: api.TokSign}, {Kind: api.TokSign, Text: "a"}, {Kind: api.TokSign, Text: "--"}, {Kind: math.MinInt}, {Kind: math.MaxInt}} {
		wantError(t, []api.Token{l}, api.ErrForm)
	}
	for _, s := range []string{"", "-", "~", "(", "+", "1", "é"} {
		wantError(t, []api.Token{{Kind: api.TokWord, Text: s}}, api.ErrName)
	}
}

func TestC1TheFirstError(t *testing.T) {
	wantError(t, tokens(t, ".x+*"), api.ErrName)
	wantError(t, tokens(t, "*+.x"), api.ErrForm)
	wantError(t, tokens(t, "(1+.x"), api.ErrName)
	wantError(t, tokens(t, "(1 +"), api.ErrEnd)
	wantError(t, tokens(t, "(1 .x"), api.ErrForm)
	wantError(t, tokens(t, "(.x)+-------1"), api.ErrName)
	wantError(t, tokens(t, "-------1+.x"), api.ErrDeep)
	wantError(t, tokens(t, "------.x"), api.ErrName)
	wantError(t, tokens(t, "-------.x"), api.ErrDeep)
	wantError(t, tokens(t, "1+(2 3)+.x"), api.ErrForm)
}

// combine calls f with all texts of at most n of the parts.
func combine(parts []string, n int, f func(s string)) {
	f("")
	if n == 0 {
		return
	}
	for _, p := range parts {
		combine(parts, n-1, func(s string) {
			f(p + s)
		})
	}
}

// plainLength walks from left to right, and keeps what is open, in place of what calls itself: how many texts are an expression.
func plainLength(l []string) (int, api.Errno) {
	open := "" // signs before one, and brackets that have begun
	for i := 0; ; i++ {
		switch {
		case len(open) > api.MaxDeep:
			return 0, api.ErrDeep
		case i == len(l):
			return 0, api.ErrEnd
		case strings.Contains("-~(", l[i]):
			open += l[i]
			continue
		case l[i] == ".x":
			return 0, api.ErrName
		case l[i] != "1" && l[i] != "a":
			return 0, api.ErrForm
		}
		i++
		open = strings.TrimRight(open, "-~")
		for open != "" && i < len(l) && l[i] == ")" {
			open = strings.TrimRight(open[:len(open)-1], "-~")
			i++
		}
		if i < len(l) && strings.Contains("* + - << >> & |", l[i]) {
			continue
		}
		if open != "" {
			return 0, api.ErrForm
		}
		return i, api.OK
	}
}

// plainTree splits texts that are an expression where the weakest sign outside of brackets stands, the last one of them.
func plainTree(l []string) api.Expr {
	at, kind, weak := -1, 0, -1
	deep := 0
	for i, s := range l {
		deep += strings.Count(s, "(") - strings.Count(s, ")")
		if deep > 0 || i == 0 || !strings.Contains("1 a )", l[i-1]) {
			continue
		}
		for strength, row := range between {
			for _, x := range row {
				if x.sign == s && strength >= weak {
					at, kind, weak = i, x.kind, strength
				}
			}
		}
	}
	switch {
	case at >= 0:
		return of(kind, plainTree(l[:at]), plainTree(l[at+1:]))
	case l[0] == "-":
		return of(api.ExNeg, plainTree(l[1:]))
	case l[0] == "~":
		return of(api.ExNot, plainTree(l[1:]))
	case l[0] == "(":
		return plainTree(l[1 : len(l)-1])
	case l[0] == "a":
		return name("a")
	}
	return num(1)
}

// holdPlain fails if Parse does not answer what the plain walk and the plain split do.
func holdPlain(t *testing.T, s string) {
	t.Helper()
	l := strings.Fields(s)
	n, err := plainLength(l)
	if err != api.OK {
		wantError(t, tokens(t, s), err)
		return
	}
	wantParsed(t, tokens(t, s), plainTree(l[:n]), n)
}

func TestC1HoldsAgainstAPlainWalk(t *testing.T) {
	combine([]string{"1 ", "a ", ".x ", "- ", "~ ", "( ", ") ", "* ", "+ ", "<< ", "& ", "| ", ", "}, 5, func(s string) { holdPlain(t, s) })
	combine([]string{"1 ", "- ", "( ", ") ", "* "}, 8, func(s string) { holdPlain(t, s) })
	combine([]string{"* 1 ", "+ ( a ) ", "- 1 ", "<< - a ", ">> 1 ", "& a ", "| ( 1 ", ") "}, 5, func(s string) { holdPlain(t, "1 "+s) })
}

func TestC1LongChains(t *testing.T) {
	l := []api.Token{{Kind: api.TokNumber, N: 1}}
	for range 1 << 15 {
		l = append(l, api.Token{Kind: api.TokSign, Text: "-"}, api.Token{Kind: api.TokWord, Text: "a"})
	}
	e, n, err := expr.Parse(l)
	if err != api.OK || n != len(l) {
		t.Fatalf("a long chain is %v tokens, %v", n, err)
	}
	if s := expr.Print(e); !strings.HasPrefix(s, strings.Repeat("( ", 1<<15)+"1 - a ) - a )") || !strings.HasSuffix(s, " ) - a )") {
		t.Error("a long chain is not printed as it is")
	}
	if v, err := expr.Eval(e, []api.Equ{{Name: "a", N: 2}}); err != api.OK || v != (api.Value{N: 1 - 1<<16}) {
		t.Errorf("a long chain is %v %v", v, err)
	}
}

func TestC1TokensAreOnlyRead(t *testing.T) {
	room := tokens(t, "-(a+1)*b | ~7 & 3")
	l := room[: len(room)-5 : len(room)]
	before := append([]api.Token(nil), room...)
	e, n, err := expr.Parse(l)
	again, _, _ := expr.Parse(l)
	if err != api.OK || n != len(l) || !reflect.DeepEqual(room, before) {
		t.Fatalf("Parse is %v %v %v, and leaves %v", e, n, err, room)
	}
	for i := range room {
		room[i] = api.Token{}
	}
	text := expr.Print(e)
	if text != "( - ( a + 1 ) * b )" || text != expr.Print(again) {
		t.Errorf("Parse answers %q and %q", text, expr.Print(again))
	}
	e.Kids[0].Kids[0].Kids[0].Name = "z"
	e.Kids[1] = num(5)
	_ = append(e.Kids[:1], num(6))
	if expr.Print(again) != text {
		t.Error("two answers share memory")
	}
}
