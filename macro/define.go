package macro

import (
	"slices"

	"platelayer/api"
	"platelayer/scan"
)

// macro answers the lines that come of a line that calls it: ErrMany, if that has not as many as there are parameters.
type macro func(calling Line) ([]Line, api.Errno)

// define keeps the macro that a block is.
func (w *work) define(b block) api.Errno {
	l := b.first.behind()
	if !listed(l) {
		return api.ErrForm
	}
	names, ok := named(l)
	if !ok {
		return api.ErrName
	}
	name, params := names[0], names[1:]
	if _, ok := w.macros[name]; ok {
		return api.ErrName
	}
	if len(params) > api.MaxArgs {
		return api.ErrMany
	}
	w.macros[name] = made(params, b.lines)
	return api.OK
}

// listed answers whether a text is words, and commas, but none of these first.
func listed(l Text) bool {
	if len(l) == 0 || comma(l[0].token) {
		return false
	}
	other := func(p part) bool { return !word(p.token) }
	for _, p := range l {
		switch {
		case p.inner != nil && slices.ContainsFunc(p.inner.words(), other):
			return false
		case p.inner == nil && other(p) && !comma(p.token):
			return false
		}
	}
	return true
}

// named answers the words of a text of words and commas, if all are names, and none behind the first is there twice.
// However long the text is, no more of it is looked at than what has each of its words once.
func named(l Text) ([]string, bool) {
	var out []string
	count := map[string]int{}
	for t := range l.all() {
		if comma(t) {
			continue
		}
		if len(out) > 0 {
			count[t.Text]++
		}
		if !scan.Name(t.Text) || count[t.Text] > 1 {
			return nil, false
		}
		out = append(out, t.Text)
	}
	return out, true
}

// made answers a macro of those parameters and lines.
func made(params []string, lines []Line) macro {
	return func(calling Line) ([]Line, api.Errno) {
		var args []*inner
		for _, l := range calling.behind().Split() {
			args = append(args, enclose(l))
		}
		if len(args) != len(params) {
			return nil, api.ErrMany
		}
		fill := filler(params, args)
		var out []Line
		for _, l := range lines {
			if l := fill(l.Text); len(l) > 0 {
				out = append(out, Line{At: calling.At, Text: l})
			}
		}
		return out, api.OK
	}
}

// filler answers what puts args into a text, where it has params, also within what stands there for another macro's parameters.
func filler(params []string, args []*inner) func(l Text) Text {
	param := func(p part) int {
		if !word(p.token) {
			return -1
		}
		return slices.Index(params, p.token.Text)
	}
	var fill func(l Text) Text
	// What is one inner text before it is one behind it, or it would be written out as often as it stands anywhere.
	filled := map[*inner]*inner{}
	again := func(in *inner) *inner {
		out, ok := filled[in]
		if !ok {
			out = refill(in, fill, func(p part) bool { return param(p) >= 0 })
			filled[in] = out
		}
		return out
	}
	stand := func(p part) (part, bool) {
		if p.inner != nil {
			in := again(p.inner)
			return part{inner: in}, in != nil
		}
		if i := param(p); i >= 0 {
			return part{inner: args[i]}, args[i] != nil
		}
		return p, true
	}
	fill = func(l Text) Text {
		out := make(Text, 0, len(l))
		for _, p := range l {
			if p, ok := stand(p); ok {
				out = append(out, p)
			}
		}
		return out
	}
	return fill
}

// refill answers what fill makes of an inner text: nil, if that has no tokens. Its words alone tell whether it has,
// so that it is not written out before its tokens are asked for.
func refill(in *inner, fill func(l Text) Text, param func(p part) bool) *inner {
	if !slices.ContainsFunc(in.words(), param) {
		return in
	}
	if in.count <= few {
		return enclose(fill(in.parts()))
	}
	words := fill(in.words())
	if len(words) == 0 {
		return nil
	}
	return &inner{
		count: few + 1,
		parts: once(func() Text { return fill(in.parts()) }),
		words: once(func() Text { return distinct(words) }),
	}
}
