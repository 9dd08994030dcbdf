package macro_test

import (
	"math/big"
	"math/rand"
	"reflect"
	"runtime"
	"slices"
	"strconv"
	"strings"
	"testing"

	"platelayer/api"
	"platelayer/macro"
)

// little fails if f asks for much room.
func little(t *testing.T, what any, f func()) {
	t.Helper()
	var before, behind runtime.MemStats
	runtime.ReadMemStats(&before)
	f()
	runtime.ReadMemStats(&behind)
	if bytes := behind.TotalAlloc - before.TotalAlloc; bytes > 8<<20 {
		t.Fatalf("%v asks for %v bytes", what, bytes)
	}
}

// handed is six macros, each of which hands on n times what it is called with, and what the first one is called with, in line 99;
// lines are those of the last one: where they have xs, it has its parameter n times.
func handed(t *testing.T, n int, lines, arg string) []api.Line {
	t.Helper()
	s := ".macro g x\nnop\n.endm\n.macro h x y\nnop\n.endm\n"
	for _, m := range []string{"ab", "bc", "cd", "de", "ef"} {
		s += ".macro " + m[:1] + " x\n" + m[1:] + " xs\n.endm\n"
	}
	l := source(t, s+".macro f x\n"+lines+"\n.endm\na "+arg)
	for i, x := range l {
		l[i].Tokens = nil
		for _, y := range x.Tokens {
			if y == word("xs") {
				l[i].Tokens = append(l[i].Tokens, slices.Repeat([]api.Token{word("x")}, n)...)
			} else {
				l[i].Tokens = append(l[i].Tokens, y)
			}
		}
	}
	l[len(l)-1].At = 99
	return l
}

func TestD1MuchThatIsHandedOnIsWrong(t *testing.T) {
	for _, c := range []struct {
		lines, arg string
		err        api.Errno
	}{
		{".if xs\n.endif", "z", api.ErrForm},
		{".if xs .x\n.endif", "1 +", api.ErrName},
		{".if xs 1\nnop\n.endif", "1 *", api.ErrDeep},
		{".rept xs\n.endr", "z", api.ErrForm},
		{".rept xs\n.endr", "1 *", api.ErrEnd},
		{".rept xs\n.endr", "( 1", api.ErrForm},
		{".rept xs\n.endr", "(", api.ErrDeep},
		{".rept 1 xs\n.endr", "+ 1", api.ErrRange},
		{".equ n, xs", "z", api.ErrForm},
		{".equ n, xs", "z +", api.ErrEnd},
		{".equ n, 0 xs", "+ z", api.ErrFit},
		{".equ n, z xs", "+ 1", api.ErrFit},
		{".equ n xs", "z", api.ErrForm},
		{".equ xs", "z", api.ErrForm},
		{".equ .n, xs", "z", api.ErrName},
		{".macro xs\n.endm", "z", api.ErrName},
		{".macro k xs\n.endm", "z y", api.ErrName},
		{".macro k, xs, l\n.endm", "z", api.ErrName},
		{".macro k xs 5\n.endm", "z", api.ErrForm},
		{".macro k xs\n.endm", "z #", api.ErrForm},
		{".macro k\n.endm xs", "z", api.ErrForm},
		{".if 1\n.else xs\n.endif", "z", api.ErrForm},
		{".endr xs", "z", api.ErrForm},
		{"g xs, xs", "z", api.ErrMany},
		{"g xs", "z", api.ErrDeep},
		{"xs", "g", api.ErrDeep},
		{"xs", "h z", api.ErrMany},
		{"xs , xs", "h z", api.ErrDeep},
		{"xs\nxs", ".if", api.ErrEnd},
		{"xs\n.endif", ".if", api.ErrName},
		{"xs", ".equ", api.ErrForm},
		{"xs\n.endif", ".if 1", api.ErrForm},
		{".if 1\nxs", ".endif", api.ErrForm},
		{"xs\n.else", "z", api.ErrForm},
		{"x xs\nz xs\nx: xs\n.rept 201\n.endr", "z", api.ErrRange},
		{rows(api.MaxLines+1, "xs"), "z", api.ErrMuch},
	} {
		for _, n := range []int{3, 7, 200} {
			l := handed(t, n, c.lines, c.arg)
			little(t, c, func() { wrongLines(t, l, c.err, 99) })
		}
	}
}

func TestD1NumbersOfMuchThatIsHandedOn(t *testing.T) {
	for _, n := range []int{2, 3, 7, 200} {
		times := int64(n * n * n * n * n * n)
		power := new(big.Int).Exp(big.NewInt(3), big.NewInt(times), big.NewInt(1<<32)).Int64()
		for _, c := range []struct {
			line, arg string
			want      int64
		}{
			{".equ v, 5 xs", "+ 1", 5 + times},
			{".equ v, 5 xs * 2", "- 3", 5 - 3*times - 3},
			{".equ v, xs 1", "2 +", 2*times + 1},
			{".equ v, 1 xs", "* 3", power},
			{".equ v, 2 | xs 1", "4 & 6 |", 7},
			{".equ v, ~0 xs", ">> 3 << 3", -8},
			{".equ v, (2 xs)", ") + (1", 2 + times},
			{".equ v, z xs - z", "- z + z + 1", times},
		} {
			l := handed(t, n, c.line, c.arg)
			little(t, c, func() {
				out, equs, f := macro.Expand(l)
				if len(out) > 0 || !reflect.DeepEqual(equs, []api.Equ{{Name: "v", N: int(int32(c.want))}}) || f != (api.Fault{}) {
					t.Errorf("%v, %v times, is %v %v %v", c, n, out, equs, f)
				}
			})
		}
	}
}

// defined is n macros that are defined one by the other, the text of each one twice that of the last; the last one is called with end.
func defined(n int, macros, step, end string) string {
	var b strings.Builder
	b.WriteString(macros)
	for i := range n {
		name, next := "b"+strconv.Itoa(i), "b"+strconv.Itoa(i+1)
		b.WriteString("\n" + strings.NewReplacer("this", name, "next", next).Replace(step))
	}
	b.WriteString("\n" + strings.ReplaceAll(end, "last", "b"+strconv.Itoa(n)))
	return b.String()
}

func TestD2MacrosThatDefineOthers(t *testing.T) {
	plain := ".macro a n x\n.macro n f q\nf q,x x\n.endm\n.endm\n.macro e n x\n.equ n,1 x\n.endm\n.macro i n x\n.if x\n.endif\n.endm\n"
	own := ".macro a n x\n.macro n f q p\nf q,x p x\n.endm\n.endm\n.macro e n x\n.equ n,1 x\n.endm\n"
	for _, n := range []int{1, 2, 5, 16, 27, 60} {
		times := new(big.Int).Lsh(big.NewInt(1), uint(n+1))
		power := new(big.Int).Exp(big.NewInt(3), times, big.NewInt(1<<32))
		little(t, n, func() {
			want(t, defined(n, plain+"a b0,z", "this a,next", ""), "")
			want(t, defined(n, plain+"a b0,* 3", "this a,next", "last e,v"), "", api.Equ{Name: "v", N: int(int32(power.Int64()))})
			want(t, defined(n, plain+"a b0,+ 0", "this a,next", "last e,v"), "", api.Equ{Name: "v", N: 1})
		})
		at := 12 + n + 2
		little(t, n, func() {
			wrong(t, defined(n, plain+"a b0,z", "this a,next", "last i,v"), api.ErrForm, at)
			wrong(t, defined(n, plain+"a b0,z", "this a,next", "last z,v\n.endm"), api.ErrForm, at+1)
			wrong(t, defined(n, plain+"a b0,z", "this a,next", ".macro k n x\n.macro n x\n.endm\n.endm\nlast k,v"), api.ErrName, at+4)
		})
		little(t, n, func() {
			times := new(big.Int).Add(times, times)
			want(t, defined(n, own+"a b0,p", "this a,next,p", "last e,v,+ 1"), "", api.Equ{Name: "v", N: int(int32(uint32(times.Uint64())))})
			want(t, defined(n, own+"a b0,p", "this a,next,p", "last e,v,"), "", api.Equ{Name: "v", N: 1})
		})
	}
}

// TestD2MacrosThatAreCalledTwice: the text of each macro is what comes of the last one, called twice, with other things each time,
// so that no two pieces of it are the same.
func TestD2MacrosThatAreCalledTwice(t *testing.T) {
	macros := ".macro k n x\n.macro n f p\nf x\n.endm\n.endm\n.macro g b s t c\n.macro s x\n.macro t y\nk c,x y\n.endm\n.endm\nb s,p + 1\nb t,p + 2\n.endm\n.macro e x\n.equ v,0 x\n.endm\n.macro i x\n.if 1 x\n.endif\n.endm\n"
	step := "g this,sthis,tthis,next"
	for _, n := range []int{1, 5, 9, 60} {
		little(t, n, func() {
			want(t, defined(n, macros+"k b0,+ p", step, ""), "")
			wrong(t, defined(n, macros+"k b0,+ p", step, "last nop,0\nlast z,1\n.endm"), api.ErrForm, 22+n+3)
			wrong(t, defined(n, macros+"k b0,p", step, "last i,0"), api.ErrForm, 22+n+1)
			wrong(t, defined(n, macros+"k b0,p", step, "last .macro,.x"), api.ErrEnd, 22+n+1)
		})
		if n < 10 {
			sum := 1 << n * n * 3 / 2
			want(t, defined(n, macros+"k b0,+ p", step, "last e,0"), "", api.Equ{Name: "v", N: sum})
		}
	}
}

// definer makes macros within one another, whose parameters are words of the other ones, and of what these are called with.
type definer struct{ *rand.Rand }

func (d definer) words(least, most int) string {
	l := make([]string, least+d.Intn(most-least+1))
	for i := range l {
		l[i] = strings.Fields("p1 q1 p2 q2 p3 q3 p4 q4 p1 p2 p3 p4 x y nop 1 + ( h")[d.Intn(19)]
	}
	return strings.Join(l, " ")
}

// list is n of what stands between commas.
func (d definer) list(n int) string {
	l := []string{d.words(2-min(n, 2), 3)}
	for len(l) < n {
		l = append(l, d.words(0, 3))
	}
	return strings.Join(l, ",")
}

// macros makes one macro within the other, each with some lines around the next one, and answers how many parameters each has.
func (d definer) macros(deep int) ([]string, []int) {
	if deep == 0 {
		return d.body(), nil
	}
	n := 1 + d.Intn(2)
	level := deep
	if d.Intn(10) == 0 {
		level = 1 + d.Intn(4)
	}
	lines, counts := d.macros(deep - 1)
	first := ".macro m" + strconv.Itoa(deep)
	for _, s := range []string{"p", "q"}[:n] {
		first += " " + s + strconv.Itoa(level)
	}
	return slices.Concat(d.body(), []string{first}, lines, []string{".endm"}, d.body()), append(counts, n)
}

func (d definer) body() []string {
	var out []string
	for range d.Intn(3) {
		out = append(out, []string{d.words(0, 6), "h " + d.list(2), "z " + d.list(3), "p" + strconv.Itoa(1+d.Intn(4)) + " , " + d.words(0, 3), "z", ".equ v, 1 " + d.words(0, 1)}[d.Intn(6)])
	}
	return out
}

// lengthen puts many tokens where x is: of one word, or of several, or others too.
func (d definer) lengthen(t *testing.T, l []api.Line) {
	t.Helper()
	for i, x := range l {
		l[i].Tokens = nil
		for _, y := range x.Tokens {
			if y == word("x") && i > 2 {
				one := source(t, []string{"p1", "q2", "p3 p4", "p4 p3 q1", "p1 p2 p3 p4 q1 q2 q3 q4", "p2 1", "z p3 +"}[d.Intn(7)])[0]
				l[i].Tokens = append(l[i].Tokens, slices.Repeat(one.Tokens, 70)...)
			} else {
				l[i].Tokens = append(l[i].Tokens, y)
			}
		}
	}
}

func TestD2MacrosThatDefineOthersHoldAgainstPlainLists(t *testing.T) {
	d := definer{rand.New(rand.NewSource(6))}
	ends := map[bool]int{}
	for range 8000 {
		lines, counts := d.macros(1 + d.Intn(4))
		lines = slices.Concat([]string{".macro h x y", "x z y x", ".endm"}, lines)
		for i := len(counts) - 1; i >= 0; i-- {
			lines = append(lines, "m"+strconv.Itoa(i+1)+" "+d.list(counts[i]))
		}
		l := source(t, strings.Join(lines, "\n"))
		d.lengthen(t, l)
		out, equs, f := macro.Expand(l)
		wantOut, wantEqus, wantFault := plainly(l)
		if told(out) != wantOut || f != wantFault || len(equs)+len(wantEqus) > 0 && !reflect.DeepEqual(equs, wantEqus) {
			t.Fatalf("Expand(%q) is\n%v\n%v %v, not\n%v\n%v %v", told(l), told(out), equs, f, wantOut, wantEqus, wantFault)
		}
		ends[f.Err == api.OK && len(counts) > 2]++
	}
	if ends[true] < 400 {
		t.Errorf("%v end well alone", ends[true])
	}
}
