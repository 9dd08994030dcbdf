package scan_test

import (
	"bytes"
	"math"
	"reflect"
	"regexp"
	"strconv"
	"strings"
	"testing"

	"platelayer/api"
	"platelayer/scan"
)

func word(s string) api.Token { return api.Token{Kind: api.TokWord, Text: s} }

func sign(s string) api.Token { return api.Token{Kind: api.TokSign, Text: s} }

func number(n int) api.Token { return api.Token{Kind: api.TokNumber, N: n} }

// same holds lists against each other; nil and empty are the same.
func same(a, b []api.Token) bool {
	return len(a) == 0 && len(b) == 0 || reflect.DeepEqual(a, b)
}

func sameLines(a, b []api.Line) bool {
	if len(a) != len(b) {
		return false
	}
	for i := range a {
		if a[i].At != b[i].At || !same(a[i].Tokens, b[i].Tokens) {
			return false
		}
	}
	return true
}

// wantTokens fails if s has other tokens.
func wantTokens(t *testing.T, s string, want ...api.Token) {
	t.Helper()
	if got, err := scan.Tokens(s); err != api.OK || !same(got, want) {
		t.Errorf("Tokens(%q) is %v %v, not %v", s, got, err, want)
	}
}

// wantWrong fails if s has tokens, or another error.
func wantWrong(t *testing.T, s string, want api.Errno) {
	t.Helper()
	if got, err := scan.Tokens(s); err != want || len(got) > 0 {
		t.Errorf("Tokens(%q) is %v %v, not %v", s, got, err, want)
	}
}

// allBytes is every byte as a text of its own.
func allBytes() []string {
	var out []string
	for c := range 256 {
		out = append(out, string([]byte{byte(c)}))
	}
	return out
}

func TestB1NameHoldsAgainstThePattern(t *testing.T) {
	pattern := regexp.MustCompile(`\A[a-zA-Z_][a-zA-Z_0-9]{0,9}\z`)
	for _, a := range append(allBytes(), "") {
		for _, b := range append(allBytes(), "") {
			for _, s := range []string{a + b, "x" + a + b + "y"} {
				if got, want := scan.Name(s), pattern.MatchString(s); got != want {
					t.Errorf("Name(%q) is %v, not %v", s, got, want)
				}
			}
		}
	}
}

func TestB1NameHasLimits(t *testing.T) {
	for _, first := range []string{"a", "Z", "_", "é", "1", ".", "/"} {
		for n := range api.MaxName + 3 {
			s := first + strings.Repeat("9", n)
			want := len(s) <= api.MaxName && strings.Contains("aZ_", first)
			if got := scan.Name(s); got != want {
				t.Errorf("Name(%q) is %v, not %v", s, got, want)
			}
		}
	}
	if scan.Name("") || scan.Name(strings.Repeat("a", 1<<20)) {
		t.Error("nothing, or too much, is a name")
	}
}

func TestB1TokensOfOrdinaryLines(t *testing.T) {
	wantTokens(t, "a: add #0x10,r1", word("a"), sign(":"), word("add"), sign("#"), number(16), sign(","), word("r1"))
	wantTokens(t, "  cmp/eq r1 , r2 ; the same?", word("cmp/eq"), word("r1"), sign(","), word("r2"))
	wantTokens(t, "mov.l @r1,r2\r", word("mov.l"), sign("@"), word("r1"), sign(","), word("r2"))
	wantTokens(t, ".equ x,(1<<4)|~2*-y", word(".equ"), word("x"), sign(","), sign("("), number(1), sign("<<"), number(4), sign(")"),
		sign("|"), sign("~"), number(2), sign("*"), sign("-"), word("y"))
}

func TestB1EveryByteAlone(t *testing.T) {
	for _, s := range allBytes() {
		switch {
		case strings.Contains(" \t\r;", s):
			wantTokens(t, s)
		case strings.Contains(":,#@()+-*&|~=", s):
			wantTokens(t, s, sign(s))
		case strings.Contains("0123456789", s):
			wantTokens(t, s, number(int(s[0]-'0')))
		case strings.Contains("abcdefghijklmnopqrstuvwxyzABCDEFGHIJKLMNOPQRSTUVWXYZ_.", s):
			wantTokens(t, s, word(s))
		default:
			wantWrong(t, s, api.ErrForm)
		}
	}
}

func TestB1WordsAreAsLongAsMayBe(t *testing.T) {
	wantTokens(t, "_.a/b//9.Z_", word("_.a/b//9.Z_"))
	wantTokens(t, "a/", word("a/"))
	wantTokens(t, ".", word("."))
	wantTokens(t, "abcdefghijklmn", word("abcdefghijklmn"))
	wantTokens(t, "r1 2", word("r1"), number(2))
	wantTokens(t, "a+b\tc\rd", word("a"), sign("+"), word("b"), word("c"), word("d"))
	wantWrong(t, "/a", api.ErrForm)
	wantWrong(t, "a /b", api.ErrForm)
	wantWrong(t, "aé", api.ErrForm)
}

func TestB1NumbersHaveTheirForms(t *testing.T) {
	wantTokens(t, "0 00 017 0x0 0x00aF 0xAf", number(0), number(0), number(17), number(0), number(175), number(175))
	wantTokens(t, "4294967295 0xffffffff 0xFFFFFFFF", number(1<<32-1), number(1<<32-1), number(1<<32-1))
	wantTokens(t, "2147483648", number(1<<31))
	wantTokens(t, strings.Repeat("0", 79)+"7", number(7))
	wantTokens(t, "0x"+strings.Repeat("0", 70)+"ffffffff", number(1<<32-1))
	wantTokens(t, "1.5 0x1.f", number(1), word(".5"), number(1), word(".f"))
	wantTokens(t, "1+2#3", number(1), sign("+"), number(2), sign("#"), number(3))
}

func TestB1NumbersThatAreNone(t *testing.T) {
	for _, s := range []string{
		"4294967296", "0x100000000", "18446744073709551616", "18446744073709551617", strings.Repeat("9", 80), "0x" + strings.Repeat("f", 78),
		"0x", "0X1", "0xg", "0x1g", "00x1", "0x0x1", "12ab", "1a", "1x", "0b1", "0o7", "1e3", "1_0", "0x1_0", "0x_1", "0_x1", "1_", "0xffG", "1/2", "0x.",
	} {
		wantWrong(t, s, api.ErrForm)
		wantWrong(t, "a "+s[:min(len(s), 78)], api.ErrForm)
	}
}

func TestB1SignsAreAsLongAsMayBe(t *testing.T) {
	wantTokens(t, "<<>><<<<", sign("<<"), sign(">>"), sign("<<"), sign("<<"))
	wantTokens(t, "::--==", sign(":"), sign(":"), sign("-"), sign("-"), sign("="), sign("="))
	for _, s := range []string{"<", ">", "<>", "><", "< <", "<<<", ">>>", "<=", "x<", "1>2"} {
		wantWrong(t, s, api.ErrForm)
	}
}

func TestB1RemarksAreNothing(t *testing.T) {
	wantTokens(t, "a;b", word("a"))
	wantTokens(t, "a ; \x00\x80!\n12ab ; <", word("a"))
	wantTokens(t, ";;")
	wantTokens(t, "a/;/b", word("a/"))
	wantTokens(t, "12;ab", number(12))
	wantWrong(t, "<;<", api.ErrForm)
	wantWrong(t, "! ; a", api.ErrForm)
	wantWrong(t, "a\nb", api.ErrForm)
	wantWrong(t, "a\vb", api.ErrForm)
}

func TestB1LinesAreNotTooLong(t *testing.T) {
	for _, s := range []string{"a", " ", "\r", ";", "+", "é", "!"} {
		wantWrong(t, strings.Repeat(s, api.MaxLine+1), api.ErrMuch)
		wantWrong(t, "a;"+strings.Repeat(s, api.MaxLine-1), api.ErrMuch)
	}
	wantTokens(t, strings.Repeat("a", api.MaxLine), word(strings.Repeat("a", api.MaxLine)))
	wantTokens(t, strings.Repeat(" ", api.MaxLine))
	wantTokens(t, "a;"+strings.Repeat("!", api.MaxLine-2), word("a"))
	wantWrong(t, strings.Repeat("!", api.MaxLine), api.ErrForm)
}

var (
	remark  = regexp.MustCompile(`(?s);.*`)
	form    = regexp.MustCompile(`\A(?:([ \t\r]+)|([a-zA-Z_.][a-zA-Z_.0-9/]*)|([0-9][a-zA-Z_0-9]*)|(<<|>>|[:,#@()+\-*&|~=]))`)
	decimal = regexp.MustCompile(`\A[0-9]+\z`)
	hex     = regexp.MustCompile(`\A0x([0-9a-fA-F]+)\z`)
)

// plainTokens is what Tokens says, told by patterns.
func plainTokens(s string) ([]api.Token, bool) {
	s = remark.ReplaceAllString(s, "")
	var out []api.Token
	for s != "" {
		m := form.FindStringSubmatch(s)
		if m == nil {
			return nil, false
		}
		s = s[len(m[0]):]
		switch {
		case m[2] != "":
			out = append(out, word(m[2]))
		case m[4] != "":
			out = append(out, sign(m[4]))
		case m[3] != "":
			digits, base := m[3], 10
			if h := hex.FindStringSubmatch(digits); h != nil {
				digits, base = h[1], 16
			} else if !decimal.MatchString(digits) {
				return nil, false
			}
			n, err := strconv.ParseInt(digits, base, 64)
			if err != nil || n >= 1<<32 {
				return nil, false
			}
			out = append(out, number(int(n)))
		}
	}
	return out, true
}

// combine calls f with all texts of at most n of the parts.
func combine(parts []string, n int, f func(s string)) {
	f("")
	if n == 0 {
		return
	}
	for _, p := range parts {
		combine(parts, n-1, func(s string) { f(p + s) })
	}
}

func TestB1TokensHoldAgainstPatterns(t *testing.T) {
	seen := map[string]bool{}
	combine([]string{"a", "x", "g", ".", "_", "/", "0", "9", "<", ">", "(", ";", " ", "\r", "\n", "!", "4294967295"}, 4, func(s string) {
		if seen[s] {
			return
		}
		seen[s] = true
		want, ok := plainTokens(s)
		got, err := scan.Tokens(s)
		if !ok && (err != api.ErrForm || len(got) > 0) || ok && (err != api.OK || !same(got, want)) {
			t.Errorf("Tokens(%q) is %v %v, not %v %v", s, got, err, want, ok)
		}
	})
}

func TestB1PrintedTokensAreReadAgain(t *testing.T) {
	combine([]string{"a", "b.c/1 ", "0x1F ", "00", "<<", ">>", "-", "~", ",", " "}, 4, func(s string) {
		l, err := scan.Tokens(s)
		if err == api.OK {
			wantTokens(t, scan.Print(l), l...)
		}
	})
}

func TestB1Print(t *testing.T) {
	for _, c := range []struct {
		want string
		l    []api.Token
	}{
		{"", nil},
		{"", []api.Token{}},
		{"a", []api.Token{word("a")}},
		{"4294967295", []api.Token{number(1<<32 - 1)}},
		{"add # 16 , r1", []api.Token{word("add"), sign("#"), number(16), sign(","), word("r1")}},
		{"0 -5 0", []api.Token{number(0), number(-5), number(0)}},
		{strconv.Itoa(math.MinInt), []api.Token{number(math.MinInt)}},
		{"3 b <<", []api.Token{{Kind: api.TokNumber, N: 3, Text: "a"}, {Kind: api.TokWord, N: 4, Text: "b"}, {Kind: api.TokSign, N: 5, Text: "<<"}}},
	} {
		if got := scan.Print(c.l); got != c.want {
			t.Errorf("Print(%v) is %q, not %q", c.l, got, c.want)
		}
	}
}

// wantLines fails if a source has other lines.
func wantLines(t *testing.T, s string, want ...api.Line) {
	t.Helper()
	if got, f := scan.Lines([]byte(s)); f != (api.Fault{}) || !sameLines(got, want) {
		t.Errorf("Lines(%q) is %v %v, not %v", s, got, f, want)
	}
}

// wantFault fails if a source has lines, or another fault.
func wantFault(t *testing.T, s string, want api.Fault) {
	t.Helper()
	if got, f := scan.Lines([]byte(s)); f != want || len(got) > 0 {
		t.Errorf("Lines(%q) is %v %v, not %v", s, got, f, want)
	}
}

func line(at int, l ...api.Token) api.Line { return api.Line{At: at, Tokens: l} }

func TestB1LinesHaveNumbers(t *testing.T) {
	wantLines(t, "")
	wantLines(t, "\n\n")
	wantLines(t, " \t\r\n;a\n")
	wantLines(t, "nop", line(1, word("nop")))
	wantLines(t, "nop\n", line(1, word("nop")))
	wantLines(t, "\na: 1\r\n\n ; x\r\n b c ; d\n;", line(2, word("a"), sign(":"), number(1)), line(5, word("b"), word("c")))
	wantLines(t, "a;!\nb", line(1, word("a")), line(2, word("b")))
	if got, f := scan.Lines(nil); len(got) > 0 || f != (api.Fault{}) {
		t.Errorf("Lines(nil) is %v %v", got, f)
	}
}

func TestB1LinesTellTheFirstFault(t *testing.T) {
	long := strings.Repeat("x", api.MaxLine+1)
	wantFault(t, "!", api.Fault{Err: api.ErrForm, At: 1})
	wantFault(t, "a\n\n1a\n"+long, api.Fault{Err: api.ErrForm, At: 3})
	wantFault(t, ";\n"+long+"\n!", api.Fault{Err: api.ErrMuch, At: 2})
	wantFault(t, "a\nb\n!", api.Fault{Err: api.ErrForm, At: 3})
	wantFault(t, strings.Repeat("\n", api.MaxSource-1)+"<", api.Fault{Err: api.ErrForm, At: api.MaxSource})
}

func TestB1SourcesAreNotTooLong(t *testing.T) {
	for _, s := range []string{"\n", "a", "!", ";"} {
		wantFault(t, strings.Repeat(s, api.MaxSource+1), api.Fault{Err: api.ErrMuch})
	}
	wantFault(t, "!\n"+strings.Repeat("\n", api.MaxSource), api.Fault{Err: api.ErrMuch})
	wantLines(t, strings.Repeat("\n", api.MaxSource-1)+"a", line(api.MaxSource, word("a")))
	got, f := scan.Lines(bytes.Repeat([]byte("a\n"), api.MaxSource/2))
	if f != (api.Fault{}) || len(got) != api.MaxSource/2 || got[len(got)-1].At != api.MaxSource/2 {
		t.Errorf("the longest source has %d lines, %v", len(got), f)
	}
}

func TestB1SourcesAreOnlyRead(t *testing.T) {
	room := []byte("a: 12 ;x\nb << c\n!!!")
	b, before := room[:16], bytes.Clone(room)
	got, f := scan.Lines(b)
	if !bytes.Equal(room, before) {
		t.Errorf("the source became %q", room)
	}
	for i := range room {
		room[i] = 'z'
	}
	want := []api.Line{line(1, word("a"), sign(":"), number(12)), line(2, word("b"), sign("<<"), word("c"))}
	if f != (api.Fault{}) || !sameLines(got, want) {
		t.Errorf("the lines became %v %v", got, f)
	}
}

func TestB1LinesShareNothing(t *testing.T) {
	got, _ := scan.Lines([]byte("a b c\nd\ne f g h i"))
	want := scan.Own(got)
	for i := range got {
		_ = append(got[i].Tokens, word("more"))
	}
	if !sameLines(got, want) {
		t.Errorf("with more behind each of them the lines are %v, not %v", got, want)
	}
}

func TestB1OwnIsACopy(t *testing.T) {
	odd := api.Token{Kind: -7, N: 4, Text: "odd"}
	sample := func() []api.Line {
		return []api.Line{line(3, word("a"), number(2)), line(-1), line(3, odd), {At: math.MaxInt, Tokens: []api.Token{}}}
	}
	given, want := sample(), sample()
	got := scan.Own(given)
	if !sameLines(got, want) || !sameLines(given, want) {
		t.Fatalf("Own(%v) is %v", want, got)
	}
	given[0].Tokens[0], given[1], given[2].Tokens[0].Text = sign("="), line(9, odd), "other"
	if !sameLines(got, want) {
		t.Errorf("the copy became %v as the lines changed", got)
	}
	given = sample()
	got = scan.Own(given)
	got[0].Tokens[1], got[2].Tokens[0].N, got[3] = odd, 9, line(2, odd)
	_ = append(got[0].Tokens, odd)
	if !sameLines(given, want) {
		t.Errorf("the lines became %v as the copy changed", given)
	}
}

func TestB1OwnTakesNoSpareRoom(t *testing.T) {
	lines := []api.Line{line(1, word("a"), word("b")), line(2, word("c"))}
	given := []api.Line{{At: 1, Tokens: lines[0].Tokens[:1]}, line(2)}[:1]
	got := scan.Own(given)
	_ = append(got, line(8))
	_ = append(got[0].Tokens, word("x"))
	if !sameLines(got, []api.Line{line(1, word("a"))}) || !sameLines(lines, []api.Line{line(1, word("a"), word("b")), line(2, word("c"))}) {
		t.Errorf("%v comes of a part, and %v of the whole", got, lines)
	}
	if len(scan.Own(nil)) != 0 || len(scan.Own([]api.Line{})) != 0 {
		t.Error("a copy of no line has lines")
	}
}
