package macro

import (
	"iter"
	"slices"

	"platelayer/api"
)

// text is tokens, in turn. What stands for a parameter is one part of it, and is written out as late as may be:
// macros that hand on their parameters many times, again and again, would have more tokens than there is room for.
type text []part

// part is a token, or, if it is not empty, a text that has no comma.
type part struct {
	token api.Token
	inner text
}

// line is a text, and which line of the source it is of.
type line struct {
	text
	at int
}

// read answers l as lines of texts.
func read(l []api.Line) []line {
	out := make([]line, len(l))
	for i, x := range l {
		out[i] = line{at: x.At, text: fill(x.Tokens, func(api.Token) (text, bool) { return nil, false })}
	}
	return out
}

// fill answers tokens as a text; stand tells what stands for a token, if something does.
func fill(l []api.Token, stand func(t api.Token) (text, bool)) text {
	out := make(text, 0, len(l))
	for _, t := range l {
		inner, ok := stand(t)
		switch {
		case !ok:
			out = append(out, part{token: t})
		case len(inner) > 0:
			out = append(out, part{inner: inner})
		}
	}
	return out
}

// all tells the tokens of a text one by one.
func (l text) all() iter.Seq[api.Token] {
	return func(yield func(t api.Token) bool) { l.each(yield) }
}

// each tells tokens as long as yield takes more, and answers whether it took all.
func (l text) each(yield func(t api.Token) bool) bool {
	for _, p := range l {
		switch {
		case len(p.inner) > 0 && !p.inner.each(yield):
			return false
		case len(p.inner) == 0 && !yield(p.token):
			return false
		}
	}
	return true
}

// head answers the first token, if that is a word, or else an empty text, that is nobody's head.
func (l text) head() string {
	for len(l) > 0 && len(l[0].inner) > 0 {
		l = l[0].inner
	}
	if len(l) == 0 || l[0].token.Kind != api.TokWord {
		return ""
	}
	return l[0].token.Text
}

// behind answers the text without its first token; there must be one.
func (l text) behind() text {
	if len(l[0].inner) > 0 {
		return slices.Concat(l[0].inner.behind(), l[1:])
	}
	return l[1:]
}

// split answers what stands between commas: nothing, if there is no token at all.
func (l text) split() []text {
	if len(l) == 0 {
		return nil
	}
	var out []text
	from := 0
	for i, p := range l {
		if len(p.inner) == 0 && comma(p.token) {
			out = append(out, l[from:i])
			from = i + 1
		}
	}
	return append(out, l[from:])
}

func comma(t api.Token) bool { return t.Kind == api.TokSign && t.Text == "," }

// fault answers what is wrong at a line, or that nothing is.
func (l line) fault(err api.Errno) api.Fault {
	if err == api.OK {
		return api.Fault{}
	}
	return api.Fault{Err: err, At: l.at}
}
