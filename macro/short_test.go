package macro_test

import (
	"math/rand"
	"reflect"
	"slices"
	"strconv"
	"strings"
	"testing"

	"platelayer/api"
	"platelayer/expr"
	"platelayer/macro"
)

// most is how many tokens of a Text are held against others one by one.
const most = 40

// written is the tokens that a Text begins with, one by one.
func written(l macro.Text) []api.Token {
	var out []api.Token
	for len(l) > 0 && len(out) < most {
		var t api.Token
		t, l = l.Next()
		out = append(out, t)
	}
	return out
}

// between is what stands between commas.
func between(l []api.Token) [][]api.Token {
	if len(l) == 0 {
		return nil
	}
	out := [][]api.Token{nil}
	for _, t := range l {
		if t == sign(",") {
			out = append(out, nil)
		} else {
			out[len(out)-1] = append(out[len(out)-1], t)
		}
	}
	return out
}

// holdText fails if a Text is not these tokens, or something else is told of it.
func holdText(t *testing.T, l macro.Text, tokens []api.Token, equs []api.Equ) {
	t.Helper()
	if !slices.Equal(written(l), tokens[:min(most, len(tokens))]) {
		t.Fatalf("%v is %v", tokens, written(l))
	}
	var want api.Value
	e, n, wantErr := expr.Parse(tokens)
	if wantErr == api.OK {
		want, wantErr = expr.Eval(e, equs)
	}
	if v, all, err := l.First(equs); v != want || err != wantErr || all != (err == api.OK && n == len(tokens)) {
		t.Fatalf("%v begins with %v %v %v, not with %v %v", tokens, v, all, err, want, wantErr)
	}
}

// holdLine fails if a line is not another one, or one of its parts is not.
func holdLine(t *testing.T, l macro.Line, want api.Line, equs []api.Equ) {
	t.Helper()
	if l.At != want.At {
		t.Fatalf("line %v has number %v", want, l.At)
	}
	holdText(t, l.Text, want.Tokens, equs)
	if len(want.Tokens) > 0 {
		_, rest := l.Next()
		holdText(t, rest, want.Tokens[1:], equs)
	}
	parts, texts := between(want.Tokens), l.Split()
	if len(parts) != len(texts) {
		t.Fatalf("%v has %v parts, not %v", want, len(texts), len(parts))
	}
	for i, x := range texts {
		holdText(t, x, parts[i], equs)
	}
}

func TestShortIsWhatExpandIs(t *testing.T) {
	d := definer{rand.New(rand.NewSource(8))}
	count := 0
	for range 3000 {
		made, counts := d.macros(1 + d.Intn(4))
		made = slices.Concat([]string{".macro h x y", "x z y x", "x + 1 , - y x", ".endm"}, made)
		for i := len(counts) - 1; i >= 0; i-- {
			made = append(made, "m"+strconv.Itoa(i+1)+" "+d.list(counts[i]))
		}
		l := source(t, strings.Join(made, "\n"))
		d.lengthen(t, l)
		out, equs, f := macro.Expand(l)
		short, shortEqus, shortFault := macro.Short(l)
		if len(short) != len(out) || !reflect.DeepEqual(equs, shortEqus) || f != shortFault {
			t.Fatalf("Short(%q) is %v %v %v, not %v %v %v", told(l), short, shortEqus, shortFault, out, equs, f)
		}
		for i, x := range out {
			holdLine(t, short[i], x, equs)
		}
		count += len(out)
	}
	if count < 1000 {
		t.Errorf("%v lines come alone", count)
	}
}

func TestReadIsTheLines(t *testing.T) {
	l := source(t, "nop\n\na: mov #1 + n , r1\n, , 1\nb (2 , -3 4")
	l = append(l, api.Line{At: -7}, api.Line{At: 9, Tokens: []api.Token{{}, {Kind: 7, N: 1, Text: ","}, word(","), sign(",")}})
	read := macro.Read(l)
	if len(read) != len(l) {
		t.Fatalf("they are %v", read)
	}
	for i, x := range l {
		holdLine(t, read[i], x, []api.Equ{{Name: "n", N: 5}})
	}
	if first, rest := (macro.Text{}).Next(); first != (api.Token{}) || len(rest) > 0 {
		t.Errorf("behind nothing there is %v %v", first, rest)
	}
	l[0].Tokens[0] = word("rts")
	if first, _ := read[0].Next(); first != word("nop") {
		t.Errorf("it is %v now", first)
	}
}
