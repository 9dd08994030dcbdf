package expr_test

import (
	"math"
	"math/big"
	"reflect"
	"strconv"
	"testing"

	"platelayer/api"
	"platelayer/expr"
	"platelayer/scan"
)

// wantValue fails if e is another value.
func wantValue(t *testing.T, e api.Expr, l []api.Equ, want api.Value) {
	t.Helper()
	if v, err := expr.Eval(e, l); err != api.OK || v != want {
		t.Errorf("Eval(%v, %v) is %v %v, not %v", e, l, v, err, want)
	}
}

// wantNone fails if e has a value, or another error.
func wantNone(t *testing.T, e api.Expr, l []api.Equ, want api.Errno) {
	t.Helper()
	if v, err := expr.Eval(e, l); err != want || v != (api.Value{}) {
		t.Errorf("Eval(%v, %v) is %v %v, not %v", e, l, v, err, want)
	}
}

// numbers has those at the edges of 32 bits and of ints.
var numbers = []int{
	0, 1, 2, 3, 5, 15, 16, 30, 31, 32, 33, 63, 64, 65535, 65536, 1<<31 - 1, 1 << 31, 1<<31 + 1, 1<<32 - 1, 1 << 32, 1<<32 + 7, 1 << 40, math.MaxInt,
	-1, -2, -3, -31, -32, -33, -65536, -1<<31 + 1, -1 << 31, -1<<31 - 1, -1 << 32, -1<<32 - 1, math.MinInt, math.MinInt + 1, 0x5a5a5a5a, 0x3c3c3c3c, -0x12345678,
}

// low is n's lowest 32 bits, with their sign, by arithmetic alone.
func low(n *big.Int) int {
	m := new(big.Int).Mod(n, big.NewInt(1<<32)).Int64()
	if m >= 1<<31 {
		m -= 1 << 32
	}
	return int(m)
}

// bitwise makes a number of 32 bits, each of f of the bits of two.
func bitwise(a, b int, f func(x, y bool) bool) *big.Int {
	n := new(big.Int)
	for i := range 32 {
		if f(big.NewInt(int64(a)).Bit(i) == 1, big.NewInt(int64(b)).Bit(i) == 1) {
			n.SetBit(n, i, 1)
		}
	}
	return n
}

// plainTwo is what the chapter says of two numbers, told by numbers of any size.
func plainTwo(kind, a, b int) int {
	x, y := big.NewInt(int64(a)), big.NewInt(int64(b))
	power := new(big.Int).Lsh(big.NewInt(1), uint(new(big.Int).Mod(y, big.NewInt(32)).Int64()))
	switch kind {
	case api.ExMul:
		return low(x.Mul(x, y))
	case api.ExAdd:
		return low(x.Add(x, y))
	case api.ExSub:
		return low(x.Sub(x, y))
	case api.ExLeft:
		return low(x.Mul(x, power))
	case api.ExRight:
		return low(x.Div(x.Mod(x, big.NewInt(1<<32)), power))
	case api.ExAnd:
		return low(bitwise(a, b, func(x, y bool) bool { return x && y }))
	}
	return low(bitwise(a, b, func(x, y bool) bool { return x || y }))
}

func TestC2NumbersAreSigned(t *testing.T) {
	for _, n := range numbers {
		want := low(big.NewInt(int64(n)))
		wantValue(t, num(n), nil, api.Value{N: want})
		wantValue(t, name("n"), []api.Equ{{Name: "n", N: n}}, api.Value{N: want})
		x := big.NewInt(int64(n))
		wantValue(t, of(api.ExNeg, num(n)), nil, api.Value{N: low(new(big.Int).Neg(x))})
		wantValue(t, of(api.ExNot, num(n)), nil, api.Value{N: low(new(big.Int).Sub(big.NewInt(-1), x))})
	}
}

func TestC2TwoNumbers(t *testing.T) {
	for kind := api.ExMul; kind <= api.ExOr; kind++ {
		for _, a := range numbers {
			for _, b := range numbers {
				wantValue(t, of(kind, num(a), num(b)), nil, api.Value{N: plainTwo(kind, a, b)})
			}
		}
	}
}

func TestC2SomeSums(t *testing.T) {
	equs := []api.Equ{{Name: "n", N: 5}, {Name: "m", N: -2}}
	for s, want := range map[string]int{
		"2+3*4": 14, "(2+3)*4": 20, "1-2-3": -4, "1<<2+1": 8, "16>>2>>1": 2, "m>>1": 1<<31 - 1, "m>>0": -2, "m<<31": 0, "n<<31": -1 << 31,
		"1<<33": 2, "1<<m": 1 << 30, "4294967295+1": 0, "2147483647+1": -1 << 31, "65536*65536": 0, "46341*46341": -2147479015,
		"6&3|8": 10, "6|3": 7, "6&3": 2, "~n": -6, "-n*m": 10, "~0>>28": 15, "-2147483648": -1 << 31, "n-m": 7,
	} {
		e, _, err := expr.Parse(tokens(t, s))
		if err != api.OK {
			t.Fatalf("Parse(%q) is %v", s, err)
		}
		wantValue(t, e, equs, api.Value{N: want})
	}
}

func TestC2Names(t *testing.T) {
	equs := []api.Equ{{Name: "n", N: 5}, {Name: "m", N: 1<<32 + 9}, {Name: "n", N: 6}, {Name: "N", N: 7}}
	wantValue(t, name("n"), equs, api.Value{N: 5})
	wantValue(t, name("m"), equs, api.Value{N: 9})
	wantValue(t, name("N"), equs, api.Value{N: 7})
	for _, s := range []string{"a", "nn", "M", "n ", ".x", "abcdefghijk"} {
		wantValue(t, name(s), equs, api.Value{Name: s})
	}
	wantValue(t, name("n"), nil, api.Value{Name: "n"})
	wantValue(t, name("n"), []api.Equ{}, api.Value{Name: "n"})
	wantValue(t, name("n"), equs[1:2], api.Value{Name: "n"})
	wantValue(t, api.Expr{Kind: api.ExName, Name: "a", N: 3}, equs, api.Value{Name: "a"})
	wantValue(t, api.Expr{Kind: api.ExNumber, Name: "n", N: 3}, equs, api.Value{N: 3})
	wantValue(t, api.Expr{Kind: api.ExNeg, Name: "n", N: 3, Kids: []api.Expr{num(1)}}, equs, api.Value{N: -1})
	wantValue(t, of(api.ExSub, name("n"), name("m")), equs, api.Value{N: -4})
}

// place is an expression of a place and n more.
func place(s string, n int) api.Expr { return of(api.ExAdd, name(s), num(n)) }

func TestC2Places(t *testing.T) {
	for kind := api.ExMul; kind <= api.ExOr; kind++ {
		for _, a := range []api.Expr{name("a"), place("a", 9)} {
			for _, b := range []api.Expr{name("b"), place("b", 2), place("a", 2), num(4)} {
				if (kind == api.ExAdd || kind == api.ExSub) && b.Kind == api.ExNumber || kind == api.ExSub && b.Kind == api.ExAdd && b.Kids[0].Name == "a" {
					continue
				}
				wantNone(t, of(kind, a, b), nil, api.ErrFit)
			}
			if kind != api.ExAdd {
				wantNone(t, of(kind, num(4), a), nil, api.ErrFit)
			}
		}
	}
	for _, kind := range []int{api.ExNeg, api.ExNot} {
		wantNone(t, of(kind, name("a")), nil, api.ErrFit)
		wantNone(t, of(kind, place("a", 3)), nil, api.ErrFit)
		wantValue(t, of(kind, of(api.ExSub, place("a", 3), name("a"))), nil, api.Value{N: plainOne(kind, 3)})
	}
	for _, a := range numbers {
		for _, b := range numbers {
			sum, less := plainTwo(api.ExAdd, a, b), plainTwo(api.ExSub, a, b)
			wantValue(t, of(api.ExAdd, place("a", a), num(b)), nil, api.Value{Name: "a", N: sum})
			wantValue(t, of(api.ExAdd, num(a), place("a", b)), nil, api.Value{Name: "a", N: sum})
			wantValue(t, of(api.ExSub, place("a", a), num(b)), nil, api.Value{Name: "a", N: less})
			wantValue(t, of(api.ExSub, place("a", a), place("a", b)), nil, api.Value{N: less})
		}
	}
}

func plainOne(kind, n int) int {
	if kind == api.ExNeg {
		return -n
	}
	return -n - 1
}

func TestC2NamesThatAreNumbersGoWithAll(t *testing.T) {
	equs := []api.Equ{{Name: "a", N: 3}}
	wantValue(t, of(api.ExMul, name("a"), name("a")), equs, api.Value{N: 9})
	wantValue(t, of(api.ExSub, name("a"), num(1)), equs, api.Value{N: 2})
	wantValue(t, of(api.ExAdd, name("b"), name("a")), equs, api.Value{Name: "b", N: 3})
	wantValue(t, of(api.ExSub, of(api.ExAdd, name("a"), name("b")), name("b")), equs, api.Value{N: 3})
	wantNone(t, of(api.ExSub, name("a"), name("b")), equs, api.ErrFit)
}

// kidsOf is how many Kids a kind must have, below 0 if there is no such kind.
func kidsOf(kind int) int {
	switch {
	case kind < api.ExNumber || kind > api.ExOr:
		return -1
	case kind <= api.ExName:
		return 0
	case kind <= api.ExNot:
		return 1
	}
	return 2
}

// kindsAndMore has every kind, and some that are none.
func kindsAndMore() []int {
	out := []int{math.MinInt, -1, 0, 12, 13, 255, 1 << 32, math.MaxInt}
	for kind := api.ExNumber; kind <= api.ExOr; kind++ {
		out = append(out, kind)
	}
	return out
}

func TestC2KindsHaveTheirKids(t *testing.T) {
	for _, kind := range kindsAndMore() {
		var kids []api.Expr
		for n := range 5 {
			e := of(kind, kids...)
			if n != kidsOf(kind) {
				wantNone(t, e, nil, api.ErrKind)
			} else if _, err := expr.Eval(e, nil); err != api.OK {
				t.Errorf("Eval(%v) is %v", e, err)
			}
			kids = append(kids, num(1))
		}
	}
}

func TestC2KidsFirst(t *testing.T) {
	fit, kind := of(api.ExNeg, name("a")), of(99)
	for _, k := range kindsAndMore() {
		wantNone(t, of(k, fit), nil, api.ErrFit)
		wantNone(t, of(k, kind), nil, api.ErrKind)
		wantNone(t, of(k, num(1), fit), nil, api.ErrFit)
		wantNone(t, of(k, num(1), num(1), num(1), fit), nil, api.ErrFit)
		wantNone(t, of(k, fit, kind), nil, api.ErrFit)
		wantNone(t, of(k, kind, fit), nil, api.ErrKind)
		wantNone(t, of(k, name("a"), name("b"), kind, fit), nil, api.ErrKind)
		wantNone(t, of(k, of(api.ExAdd, num(1), of(99, fit))), nil, api.ErrFit)
	}
}

func TestC2PlacesWithoutAName(t *testing.T) {
	wantValue(t, name(""), []api.Equ{{Name: "a", N: 1}}, api.Value{})
	wantValue(t, name(""), []api.Equ{{Name: "", N: 4}}, api.Value{N: 4})
}

func TestC2PrintsEachKind(t *testing.T) {
	for want, e := range map[string]api.Expr{
		"0": num(0), "5": num(5), "2147483648": num(-1 << 31), "4294967295": num(-1), "7": num(1<<32 + 7), "1": num(math.MinInt + 1),
		"a": name("a"), ".x y": name(".x y"),
		"- 1": of(api.ExNeg, num(1)), "~ a": of(api.ExNot, name("a")), "- ~ - a": of(api.ExNeg, of(api.ExNot, of(api.ExNeg, name("a")))),
		"- 4294967295": of(api.ExNeg, num(-1)),
		"( 1 * a )":    of(api.ExMul, num(1), name("a")), "( 1 + 2 )": of(api.ExAdd, num(1), num(2)), "( 1 - 2 )": of(api.ExSub, num(1), num(2)),
		"( 1 << 2 )": of(api.ExLeft, num(1), num(2)), "( 1 >> 2 )": of(api.ExRight, num(1), num(2)),
		"( 1 & 2 )": of(api.ExAnd, num(1), num(2)), "( 1 | 2 )": of(api.ExOr, num(1), num(2)),
		"( - ( a + 1 ) * ~ ( 2 | b ) )": of(api.ExMul, of(api.ExNeg, place("a", 1)), of(api.ExNot, of(api.ExOr, num(2), name("b")))),
	} {
		if got := expr.Print(e); got != want {
			t.Errorf("Print(%v) is %q, not %q", e, got, want)
		}
	}
}

func TestC2PrintsNothingOfOthers(t *testing.T) {
	for _, kind := range kindsAndMore() {
		var kids []api.Expr
		for n := range 5 {
			got := expr.Print(api.Expr{Kind: kind, N: 3, Name: "a", Kids: kids})
			want := ""
			switch kind {
			case api.ExNumber:
				want = "3"
			case api.ExName:
				want = "a"
			}
			if (kidsOf(kind) < 1 || n != kidsOf(kind)) && got != want {
				t.Errorf("kind %v with %v Kids is printed as %q, not %q", kind, n, got, want)
			}
			kids = append(kids, num(1))
		}
	}
	for want, e := range map[string]api.Expr{
		"- ": of(api.ExNeg, of(0)), "~ ": of(api.ExNot, of(api.ExMul)), "(  +  )": of(api.ExAdd, of(12), of(-1)), "( 2 +  )": of(api.ExAdd, num(2), of(api.ExRight)),
	} {
		if got := expr.Print(e); got != want {
			t.Errorf("Print(%v) is %q, not %q", e, got, want)
		}
	}
}

func TestC2PrintedExpressionsAreReadAgain(t *testing.T) {
	list := []api.Expr{num(0), num(-1), num(-1 << 31), name("a")}
	for deep := 0; deep < 2; deep++ {
		parts := append([]api.Expr(nil), list[:min(len(list), 40)]...)
		for _, a := range parts {
			list = append(list, of(api.ExNeg, a), of(api.ExNot, a))
			for kind := api.ExMul; kind <= api.ExOr; kind++ {
				for _, b := range parts {
					list = append(list, of(kind, a, b))
				}
			}
		}
	}
	for _, e := range list {
		wantExpr(t, expr.Print(e), e)
	}
}

func TestC2DeepOnesEnd(t *testing.T) {
	e, want := num(3), 3
	for i := range 1<<16 - 2 {
		kind := []int{api.ExNeg, api.ExNot}[i%2]
		e, want = of(kind, e), plainOne(kind, want)
	}
	wantValue(t, e, nil, api.Value{N: want})
	if s := expr.Print(e); len(s) != 2*(1<<16-2)+1 || s[len(s)-5:] != "~ - 3" {
		t.Errorf("a deep one has %v bytes", len(s))
	}
	right := name("a")
	for range 1<<16 - 2 {
		right = of(api.ExAdd, num(1), right)
	}
	wantValue(t, right, nil, api.Value{Name: "a", N: 1<<16 - 2})
	if l, err := scan.Tokens(expr.Print(right)[:78]); err != api.OK || len(l) != 39 {
		t.Errorf("a deep one begins with %v %v", l, err)
	}
	many := make([]api.Expr, 1<<16)
	wantNone(t, of(api.ExAdd, many...), nil, api.ErrKind)
}

func TestC2ArgumentsAreOnlyRead(t *testing.T) {
	kids := []api.Expr{num(1 << 32), name("n"), num(7)}
	e := api.Expr{Kind: api.ExAdd, Kids: kids[:2]}
	room := []api.Equ{{Name: "m", N: 1}, {Name: "n", N: 1<<32 + 2}, {Name: "n", N: 3}}
	wantKids := append([]api.Expr(nil), kids...)
	wantRoom := append([]api.Equ(nil), room...)
	wantValue(t, e, room[:1], api.Value{Name: "n"})
	wantValue(t, e, room, api.Value{N: 2})
	if s := expr.Print(e); s != "( 0 + n )" {
		t.Errorf("Print(%v) is %q", e, s)
	}
	if !reflect.DeepEqual(kids, wantKids) || !reflect.DeepEqual(room, wantRoom) {
		t.Errorf("the arguments are %v and %v behind it", kids, room)
	}
}

func TestC2ManyNames(t *testing.T) {
	var equs []api.Equ
	for i := range 300 {
		equs = append(equs, api.Equ{Name: "n" + strconv.Itoa(i%100), N: i})
	}
	for i := range 100 {
		wantValue(t, name("n"+strconv.Itoa(i)), equs, api.Value{N: i})
		wantValue(t, name("n"+strconv.Itoa(i)), equs[100+i+1:], api.Value{N: 200 + i})
	}
}
