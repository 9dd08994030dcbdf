package macro

import (
	"slices"

	"platelayer/api"
	"platelayer/scan"
)

// macro answers the lines that come of a line that calls it: ErrMany, if that has not as many as there are parameters.
type macro func(calling line) ([]line, api.Errno)

// define keeps the macro that a block is.
func (w *work) define(b block) api.Errno {
	names, err := words(b.first.behind())
	if err != api.OK {
		return err
	}
	name, params := names[0], names[1:]
	if !named(name, params) {
		return api.ErrName
	}
	if _, ok := w.macros[name]; ok {
		return api.ErrName
	}
	if len(params) > api.MaxArgs {
		return api.ErrMany
	}
	w.macros[name] = made(params, b.lines)
	return api.OK
}

// words answers the words of a text that has at least one, and commas behind words, but nothing else.
func words(l text) ([]string, api.Errno) {
	var out []string
	for t := range l.all() {
		switch {
		case t.Kind == api.TokWord:
			out = append(out, t.Text)
		case len(out) == 0 || !comma(t):
			return nil, api.ErrForm
		}
	}
	if len(out) == 0 {
		return nil, api.ErrForm
	}
	return out, api.OK
}

// named answers whether all are names, and no parameter is there twice.
func named(name string, params []string) bool {
	count := map[string]int{}
	for _, p := range params {
		count[p]++
		if !scan.Name(p) || count[p] > 1 {
			return false
		}
	}
	return scan.Name(name)
}

// made answers a macro of those parameters and lines.
func made(params []string, lines []line) macro {
	// The lines are written out once, as what stands in them for another macro's parameters may be parameters here.
	body := make([][]api.Token, len(lines))
	for i, l := range lines {
		body[i] = slices.Collect(l.all())
	}
	return func(calling line) ([]line, api.Errno) {
		args := calling.behind().split()
		if len(args) != len(params) {
			return nil, api.ErrMany
		}
		stand := func(t api.Token) (text, bool) {
			i := slices.Index(params, t.Text)
			if t.Kind != api.TokWord || i < 0 {
				return nil, false
			}
			return args[i], true
		}
		var out []line
		for _, tokens := range body {
			if l := fill(tokens, stand); len(l) > 0 {
				out = append(out, line{at: calling.at, text: l})
			}
		}
		return out, api.OK
	}
}
