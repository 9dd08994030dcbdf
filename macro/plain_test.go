package macro_test

import (
	"math/rand"
	"reflect"
	"slices"
	"strings"
	"testing"

	"platelayer/api"
	"platelayer/expr"
	"platelayer/macro"
	"platelayer/scan"
)

// plainLine is a line that is still to be done: its tokens as texts, how deep it is, and with which others it came.
type plainLine struct {
	at, deep, group int
	texts           []string
}

func (x plainLine) head() string {
	if len(x.texts) == 0 || !isWord(x.texts[0]) {
		return ""
	}
	return x.texts[0]
}

func isWord(s string) bool {
	return s != "" && strings.Contains("abcdefghijklmnopqrstuvwxyzABCDEFGHIJKLMNOPQRSTUVWXYZ_.", s[:1])
}

type plainMacro struct {
	params []string
	lines  []plainLine
}

// plain does the chapter's words with one list of what is still to be done: what comes of a line is laid before what follows it, all written out.
type plain struct {
	todo   []plainLine
	groups int
	out    []string
	equs   []api.Equ
	macros map[string]plainMacro
}

var plainEnds = map[string]string{".macro": ".endm", ".rept": ".endr", ".if": ".endif"}

// lay lays lines, n times, before all others, one deeper than x: ErrDeep, at the first one, if that is too deep.
func (p *plain) lay(x plainLine, n int, lines []plainLine) api.Fault {
	if n == 0 {
		return api.Fault{}
	}
	if x.deep+1 > api.MaxDeep {
		f := api.Fault{Err: api.ErrDeep}
		if len(lines) > 0 {
			f.At = lines[0].at
		}
		return f
	}
	var all []plainLine
	for range n {
		p.groups++
		for _, y := range lines {
			y.deep, y.group = x.deep+1, p.groups
			all = append(all, y)
		}
	}
	p.todo = append(all, p.todo...)
	return api.Fault{}
}

// number is the number that texts are.
func (p *plain) number(texts []string) (int, api.Errno) {
	var l []api.Token
	for _, s := range texts {
		one, _ := scan.Tokens(s)
		l = append(l, one...)
	}
	e, n, err := expr.Parse(l)
	if err != api.OK {
		return 0, err
	}
	if n != len(l) {
		return 0, api.ErrForm
	}
	v, err := expr.Eval(e, p.equs)
	if err != api.OK || v.Name != "" {
		return 0, api.ErrFit
	}
	return v.N, api.OK
}

// run does all, and answers the first fault.
func (p *plain) run() api.Fault {
	for looked := 1; len(p.todo) > 0; looked++ {
		x := p.todo[0]
		p.todo = p.todo[1:]
		f := api.Fault{Err: api.ErrMuch, At: x.at}
		if looked <= 4000 {
			f = p.one(x)
		}
		if f.Err != api.OK {
			return f
		}
	}
	return api.Fault{}
}

func (p *plain) one(x plainLine) api.Fault {
	head := x.head()
	if plainEnds[head] != "" {
		return p.block(x)
	}
	m, called := p.macros[head]
	switch {
	case slices.Contains([]string{".endm", ".endr", ".endif", ".else"}, head):
		return api.Fault{Err: api.ErrForm, At: x.at}
	case head == ".equ":
		return p.equ(x)
	case called:
		return p.call(x, m)
	case len(p.out) >= 200:
		return api.Fault{Err: api.ErrMuch, At: x.at}
	}
	p.out = append(p.out, told([]api.Line{{At: x.at}})+strings.Join(x.texts, " "))
	return api.Fault{}
}

func (p *plain) equ(x plainLine) api.Fault {
	if len(x.texts) < 4 || !isWord(x.texts[1]) || x.texts[2] != "," {
		return api.Fault{Err: api.ErrForm, At: x.at}
	}
	for _, q := range append([]api.Equ{{}}, p.equs...) {
		if !scan.Name(x.texts[1]) || q.Name == x.texts[1] {
			return api.Fault{Err: api.ErrName, At: x.at}
		}
	}
	n, err := p.number(x.texts[3:])
	if err != api.OK {
		return api.Fault{Err: err, At: x.at}
	}
	p.equs = append(p.equs, api.Equ{Name: x.texts[1], N: n})
	return api.Fault{}
}

func (p *plain) block(x plainLine) api.Fault {
	end, other, open := -1, -1, 1
	for i, y := range p.todo {
		if y.group != x.group {
			break
		}
		if y.head() == x.head() {
			open++
		}
		if y.head() == ".else" && x.head() == ".if" && open == 1 && other < 0 {
			other = i
		}
		if y.head() == plainEnds[x.head()] {
			open--
		}
		if open == 0 {
			end = i
			break
		}
	}
	if end < 0 {
		return api.Fault{Err: api.ErrEnd, At: x.at}
	}
	last := p.todo[end]
	if len(last.texts) > 1 || other >= 0 && len(p.todo[other].texts) > 1 {
		return api.Fault{Err: api.ErrForm, At: last.at}
	}
	lines := p.todo[:end]
	p.todo = p.todo[end+1:]
	if x.head() == ".macro" {
		if err := p.define(x, lines); err != api.OK {
			return api.Fault{Err: err, At: x.at}
		}
		return api.Fault{}
	}
	n, err := p.number(x.texts[1:])
	switch {
	case err != api.OK:
		return api.Fault{Err: err, At: x.at}
	case x.head() == ".rept" && (n < 0 || n > 200):
		return api.Fault{Err: api.ErrRange, At: x.at}
	case x.head() == ".if" && n != 0 && other >= 0:
		return p.lay(x, 1, lines[:other])
	case x.head() == ".if" && n == 0 && other >= 0:
		return p.lay(x, 1, lines[other+1:])
	case x.head() == ".if" && n == 0:
		return p.lay(x, 1, nil)
	case x.head() == ".if":
		return p.lay(x, 1, lines)
	}
	return p.lay(x, n, lines)
}

func (p *plain) define(x plainLine, lines []plainLine) api.Errno {
	var names []string
	for i, s := range x.texts[1:] {
		if isWord(s) {
			names = append(names, s)
		} else if s != "," || i == 0 {
			return api.ErrForm
		}
	}
	if len(names) == 0 {
		return api.ErrForm
	}
	for i, s := range names {
		if !scan.Name(s) || i > 0 && slices.Index(names[1:], s) != i-1 {
			return api.ErrName
		}
	}
	if _, ok := p.macros[names[0]]; ok {
		return api.ErrName
	}
	if len(names) > 5 {
		return api.ErrMany
	}
	p.macros[names[0]] = plainMacro{params: names[1:], lines: slices.Clone(lines)}
	return api.OK
}

func (p *plain) call(x plainLine, m plainMacro) api.Fault {
	var args [][]string
	for i, s := range x.texts[1:] {
		if i == 0 {
			args = append(args, nil)
		}
		if s == "," {
			args = append(args, nil)
		} else {
			args[len(args)-1] = append(args[len(args)-1], s)
		}
	}
	if len(args) != len(m.params) {
		return api.Fault{Err: api.ErrMany, At: x.at}
	}
	var lines []plainLine
	for _, y := range m.lines {
		var texts []string
		for _, s := range y.texts {
			if i := slices.Index(m.params, s); i >= 0 {
				texts = append(texts, args[i]...)
			} else {
				texts = append(texts, s)
			}
		}
		if len(texts) > 0 {
			lines = append(lines, plainLine{at: x.at, texts: texts})
		}
	}
	return p.lay(x, 1, lines)
}

// plainly is what comes of lines by plain.
func plainly(l []api.Line) (string, []api.Equ, api.Fault) {
	p := plain{macros: map[string]plainMacro{}}
	for _, x := range l {
		texts := make([]string, len(x.Tokens))
		for i, t := range x.Tokens {
			texts[i] = scan.Print([]api.Token{t})
		}
		p.todo = append(p.todo, plainLine{at: x.At, texts: texts})
	}
	if f := p.run(); f.Err != api.OK {
		return "", nil, f
	}
	return strings.Join(p.out, "\n"), p.equs, api.Fault{}
}

// maker makes lines of all kinds, mostly as they must be.
type maker struct{ *rand.Rand }

func (m maker) pick(l ...string) string { return l[m.Intn(len(l))] }

// name is one of few, so that some are there twice, and some are another's parameters.
func (m maker) name() string { return m.pick("m", "n", "p", "q", "a", "b", "c") }

func (m maker) value() string {
	return m.pick("0", "0", "1", "1", "1", "2", "2", "2", "3", "3", "4", "5", "n", "n", "b", "n-1", "a-a", "(1)", "1+b-b", "n*0", "1-1", "10", "30", "200", "201", "-1", "n n", ".x", "a*2")
}

func (m maker) list(one func() string) string {
	l := make([]string, m.Intn(4))
	for i := range l {
		l[i] = one()
	}
	return strings.Join(l, m.pick(",", ",", ",", " ", ",,", ", a "))
}

func (m maker) lines(deep int) []string {
	var out []string
	for range m.Intn(5) {
		out = append(out, m.block(deep)...)
	}
	return out
}

func (m maker) block(deep int) []string {
	kind := m.Intn(8)
	if deep == 0 && kind < 4 {
		kind += 4
	}
	switch kind {
	case 0, 1:
		return slices.Concat([]string{".rept " + m.value()}, m.lines(deep-1), []string{".endr"})
	case 2:
		other := m.lines(deep - 1)
		if m.Intn(3) > 0 {
			other = append([]string{".else"}, other...)
		}
		return slices.Concat([]string{".if " + m.value()}, m.lines(deep-1), other, []string{".endif"})
	case 3:
		return slices.Concat([]string{".macro " + m.name() + m.pick(" ", ",", ", ") + m.list(m.name)}, m.lines(deep-1), []string{".endm"})
	case 4:
		return []string{".equ " + m.name() + ", " + m.value()}
	case 5, 6:
		return []string{m.name() + " " + m.list(m.value)}
	}
	return []string{m.pick("nop", "a: b c", "add #a,b", "a", "b, c", "x: .endm", "a b")}
}

// spoil changes one line, or one place between lines.
func (m maker) spoil(l []string) []string {
	i := m.Intn(len(l))
	switch m.Intn(5) {
	case 0:
		return slices.Delete(l, i, i+1)
	case 1:
		return slices.Insert(l, i, l[m.Intn(len(l))])
	case 2:
		return slices.Insert(l, i, m.pick(".endm", ".endr", ".endif", ".else", ".if 1", ".rept 1", ".macro m", ".macro", ".equ"))
	case 3:
		l[i] += m.pick(" a", " 1", ",", " b c", " .x", " #")
	}
	if f := strings.Fields(l[i]); len(f) > 0 {
		l[i] = strings.Join(slices.Delete(f, m.Intn(len(f)), len(f)), " ")
	}
	return l
}

func TestD1AndD2HoldAgainstPlainLists(t *testing.T) {
	m := maker{rand.New(rand.NewSource(4))}
	seen := map[api.Errno]int{}
	for range 20000 {
		var l []string
		for len(l) < 3 {
			l = append(l, m.lines(4)...)
		}
		for range m.Intn(5) {
			begin := m.Intn(2)
			l = slices.Concat([]string{[]string{".rept 1", ".if 1"}[begin]}, l, []string{[]string{".endr", ".endif"}[begin]})
		}
		for m.Intn(3) == 0 && len(l) > 0 {
			l = m.spoil(l)
		}
		s := strings.Join(l, "\n")
		lines := source(t, s)
		out, equs, f := macro.Expand(lines)
		wantOut, wantEqus, wantFault := plainly(lines)
		if told(out) != wantOut || f != wantFault || len(equs)+len(wantEqus) > 0 && !reflect.DeepEqual(equs, wantEqus) {
			t.Fatalf("Expand(%q) is\n%v\n%v %v, not\n%v\n%v %v", s, told(out), equs, f, wantOut, wantEqus, wantFault)
		}
		seen[f.Err]++
	}
	for _, err := range []api.Errno{api.OK, api.ErrForm, api.ErrRange, api.ErrMuch, api.ErrMany, api.ErrName, api.ErrFit, api.ErrEnd, api.ErrDeep} {
		if seen[err] < 50 {
			t.Errorf("%v comes %v times alone", err, seen[err])
		}
	}
}
