package expr_test

import (
	"math/big"
	"math/rand"
	"slices"
	"strings"
	"testing"

	"platelayer/api"
	"platelayer/expr"
)

// partEqus are the names that are numbers in tests of Parts.
var partEqus = []api.Equ{{Name: "n", N: 6}, {Name: "m", N: -3}, {Name: "n", N: 1}}

// whole is what all of l is, by Parse and Eval.
func whole(l []api.Token) (api.Value, api.Errno) {
	e, n, err := expr.Parse(l)
	if err != api.OK {
		return api.Value{}, err
	}
	if n < len(l) {
		return api.Value{}, api.ErrForm
	}
	return expr.Eval(e, partEqus)
}

// firstOf is what l begins with, by Parse and Eval, and whether that is all of it.
func firstOf(l []api.Token) (api.Value, bool, api.Errno) {
	e, n, err := expr.Parse(l)
	if err != api.OK {
		return api.Value{}, false, err
	}
	v, err := expr.Eval(e, partEqus)
	return v, n == len(l), err
}

// partOf is the Part of l, token by token.
func partOf(l []api.Token, spot expr.Spot) *expr.Part {
	p := expr.From(spot, partEqus)
	for _, t := range l {
		p.Add(t)
	}
	return p
}

// cut is the Part of l, cut anywhere, and the pieces cut again.
func cut(r *rand.Rand, l []api.Token, spot expr.Spot) *expr.Part {
	if len(l) < 2 || r.Intn(5) == 0 {
		return partOf(l, spot)
	}
	p := expr.From(spot, partEqus)
	for from := 0; from < len(l); {
		n := r.Intn(min(len(l)-from+1, len(l)))
		p.Join(cut(r, l[from:from+n], p.Spot()))
		from += n
	}
	return p
}

// wantWhole fails if p is not what Parse and Eval say of l; it answers that error.
func wantWhole(t *testing.T, p *expr.Part, l []api.Token) api.Errno {
	t.Helper()
	want, wantErr := whole(l)
	if v, err := p.Value(); v != want || err != wantErr {
		t.Fatalf("%v is by parts %v %v, not %v %v", l, v, err, want, wantErr)
	}
	first, all, firstErr := firstOf(l)
	if v, err := p.First(); v != first || err != firstErr || err == api.OK && all != (p.Err() == api.OK) {
		t.Fatalf("%v begins by parts with %v %v, and then %v, not with %v %v", l, v, err, p.Err(), first, firstErr)
	}
	return wantErr
}

func pick(r *rand.Rand, l string) string {
	f := strings.Fields(l)
	return f[r.Intn(len(f))]
}

// anyOf makes an expression.
func anyOf(r *rand.Rand, deep int) []string {
	var out []string
	signs := []string{"+ -", "* + - << >> & |", "<< >> *"}[r.Intn(3)]
	for i := range 1 + r.Intn(6)*r.Intn(3) {
		if i > 0 {
			out = append(out, pick(r, signs))
		}
		for r.Intn(5) == 0 {
			out = append(out, pick(r, "- ~"))
		}
		switch {
		case deep > 0 && r.Intn(3) == 0:
			out = slices.Concat(out, []string{"("}, anyOf(r, deep-1), []string{")"})
		case r.Intn(8) == 0:
			out = append(out, pick(r, "a b a a"))
		default:
			out = append(out, pick(r, "0 1 2 3 4 5 7 n m 17 31 32 33 255 65537 4294967295 2147483648"))
		}
	}
	return out
}

func TestPartsAreWhatTheWholeIs(t *testing.T) {
	r := rand.New(rand.NewSource(3))
	seen := map[api.Errno]int{}
	for range 20000 {
		s := anyOf(r, r.Intn(5))
		for r.Intn(4) == 0 {
			s = slices.Insert(s, r.Intn(len(s)+1), pick(r, "( ) - ~ + * a 1 .x , # abcdefghijk << : ( ("))
		}
		if r.Intn(8) == 0 {
			s = s[:r.Intn(len(s)+1)]
		}
		var l []api.Token
		for _, x := range s {
			l = append(l, tokens(t, x)...)
		}
		seen[wantWhole(t, cut(r, l, expr.Spot{}), l)]++
	}
	for _, err := range []api.Errno{api.OK, api.ErrForm, api.ErrEnd, api.ErrName, api.ErrDeep, api.ErrFit} {
		if seen[err] < 100 {
			t.Errorf("%v comes %v times alone", err, seen[err])
		}
	}
}

// again is the Part of begin, of pieces one behind the other, so many times, and of end; those of pieces are made once for each Spot.
func again(begin []api.Token, pieces [][]api.Token, times int, end []api.Token) *expr.Part {
	type place struct {
		piece int
		spot  expr.Spot
	}
	made := map[place]*expr.Part{}
	p := partOf(begin, expr.Spot{})
	for range times {
		for i, l := range pieces {
			at := place{i, p.Spot()}
			if made[at] == nil {
				made[at] = partOf(l, at.spot)
			}
			p.Join(made[at])
		}
	}
	p.Join(partOf(end, p.Spot()))
	return p
}

func TestPartsThatStandAgain(t *testing.T) {
	seen := map[api.Errno]int{}
	around := []string{" ", "5|6&n<<1+2*3 ", "a ", "7-(2+~(9 ))", "a-b+- (1<<3 ) ", "2*(a-(b ))", "1&-(((a-7+ 4 )))", "-~-~-~ 2 ", "~(-( 3+ -2)*2)", "(((((( 1 ))))))", "4- 1"}
	pieces := []string{"+1", "-n", "*3", "<<1", ">>1", ">>31", "&6", "|9", "+a", "-a", "-b", "1+", "2*", "m<<", "7-", "(1+2*3", "(", ")", "-", "~", "1", "a",
		"+a-a", "-a+a", "-a+b", "+b-b", "*2+3*2", "+3*2-1<<2", "&3*2|5", "-(3-n)", ")*3+(2", ")|5&(4+1", "))-2<<((3", "2)*(", "+7)-(((1))+(1", "+a*2", "<<3>>4<<2>>1", "|1&2<<3+4*5-6>>7&8|9", "*5-4>>3&2|1"}
	for _, s := range around {
		begin, end, _ := strings.Cut(s, " ")
		for i, p := range pieces {
			for _, q := range append(pieces[max(0, i-9):i:i], "", "+2", "1-", ")+(", "&7", "-1)+") {
				for _, n := range []int{1, 2, 3, 5, 8} {
					l := [][]api.Token{tokens(t, p), tokens(t, q)}
					all := slices.Concat(tokens(t, begin), slices.Repeat(slices.Concat(l...), n), tokens(t, end))
					seen[wantWhole(t, again(tokens(t, begin), l, n, tokens(t, end)), all)]++
				}
			}
		}
	}
	for _, err := range []api.Errno{api.OK, api.ErrForm, api.ErrEnd, api.ErrDeep, api.ErrFit} {
		if seen[err] < 100 {
			t.Errorf("%v comes %v times alone", err, seen[err])
		}
	}
}

// many is the Part of a piece that stands 3^25 times from a Spot on, as each Part is three of the last one.
func many(piece []api.Token, spot expr.Spot) *expr.Part {
	part := func(s expr.Spot) *expr.Part { return partOf(piece, s) }
	for range 25 {
		one, made := part, map[expr.Spot]*expr.Part{}
		part = func(s expr.Spot) *expr.Part {
			if made[s] == nil {
				made[s] = expr.From(s, partEqus)
				for range 3 {
					made[s].Join(one(made[s].Spot()))
				}
			}
			return made[s]
		}
	}
	return part(spot)
}

func TestPartsOfManyTokens(t *testing.T) {
	times, power := 1, 5
	for range 25 {
		times, power = 3*times, low(new(big.Int).Exp(big.NewInt(int64(power)), big.NewInt(3), nil))
	}
	for _, c := range []struct {
		begin, piece, end string
		want              api.Value
		err               api.Errno
	}{
		{"5", "+1", "", number(5 + times), api.OK},
		{"5", "-3", "*2", number(5 - 3*times - 3), api.OK},
		{"7", "*5", "", number(7 * power), api.OK},
		{"7", "*5", "+1&15", number((7*power + 1) & 15), api.OK},
		{"1+", "5*", "2<<1", number((1 + 2*power) << 1), api.OK},
		{"", "7|", "8", number(15), api.OK},
		{"", "7&", "12", number(4), api.OK},
		{"1000", "<<2>>2", "", number(1000), api.OK},
		{"-1", ">>4<<4", "|1", number(-15), api.OK},
		{"-1", "<<3>>4<<5>>4", "", number(0x0ffffffe), api.OK},
		{"-1", "<<1", "+0", number(0), api.OK},
		{"a", "-a+b-b+a", "+2", api.Value{Name: "a", N: 2}, api.OK},
		{"1", "+b-b+3", "", number(1 + 3*times), api.OK},
		{"b", "-a+a", "", api.Value{}, api.ErrFit},
		{"a", "+b-b", "", api.Value{}, api.ErrFit},
		{"1", "+b-a", "", api.Value{}, api.ErrFit},
		{"(2", ")*2+(3", ")", number(4 + 6*(times-1) + 3), api.OK},
		{"-(1+(a", "-a)+2)-(1+(a", "-a))", number(-3 - 3*(times-1) - 1), api.OK},
		{"2", "+1)", "", api.Value{}, api.ErrForm},
		{"2", "+(1", ")", api.Value{}, api.ErrDeep},
		{"", "1+", "", api.Value{}, api.ErrEnd},
		{"1", "1", "", api.Value{}, api.ErrForm},
		{"1", "+.x", "", api.Value{}, api.ErrName},
	} {
		p := partOf(tokens(t, c.begin), expr.Spot{})
		p.Join(many(tokens(t, c.piece), p.Spot()))
		p.Join(partOf(tokens(t, c.end), p.Spot()))
		if v, err := p.Value(); v != c.want || err != c.err {
			t.Errorf("%q, many times %q, and %q is %v %v, not %v %v", c.begin, c.piece, c.end, v, err, c.want, c.err)
		}
	}
}

// number is the value of a number, its lowest 32 bits.
func number(n int) api.Value { return api.Value{N: low(big.NewInt(int64(n)))} }

func TestPartErrorsStay(t *testing.T) {
	for s, want := range map[string]api.Errno{"1 2": api.ErrForm, "1)": api.ErrForm, "(1 2": api.ErrForm, "*": api.ErrForm, ".x": api.ErrName, "1+abcdefghijk": api.ErrName, "-------": api.ErrDeep, "(((((((": api.ErrDeep, "-(-(-(~": api.ErrDeep} {
		p := partOf(tokens(t, s), expr.Spot{})
		for range 2 {
			if v, err := p.Value(); p.Err() != want || err != want || v != (api.Value{}) {
				t.Errorf("%q is %v, %v %v, not %v", s, p.Err(), v, err, want)
			}
			p.Add(tokens(t, "#")[0])
			p.Join(partOf(tokens(t, "1 .x"), p.Spot()))
		}
	}
	for s, want := range map[string]api.Errno{"": api.ErrEnd, "1+": api.ErrEnd, "(": api.ErrEnd, "------": api.ErrEnd, "(1": api.ErrForm, "-(1+(2)": api.ErrForm, "a*2": api.ErrFit, "~a": api.ErrFit, "a-b": api.ErrFit} {
		p := partOf(tokens(t, s), expr.Spot{})
		if v, err := p.Value(); p.Err() != api.OK || err != want || v != (api.Value{}) {
			t.Errorf("%q is %v, %v %v, not %v", s, p.Err(), v, err, want)
		}
	}
}
