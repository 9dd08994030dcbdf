package macro

import (
	"iter"
	"slices"

	"platelayer/api"
)

// few is how many tokens an inner text may have to be written out at once: more than these take less room, if they are not.
const few = 64

// Text is tokens, in turn. What stands for a parameter is one part of it, that is the same wherever it stands, and is written out as
// late as may be: macros that hand on their parameters many times, again and again, would have more tokens than there is room for.
type Text []part

// part is a token, or, if there is one, an inner text.
type part struct {
	token api.Token
	inner *inner
}

// inner is a text that has tokens, but no comma.
type inner struct {
	count int // how many tokens it has, or, if it may have more than few, one more than these
	parts func() Text
	words func() Text // each word of it once, in turn, and one token for all that are no words
}

// Line is a Text, and which line of the source it is of.
type Line struct {
	Text
	At int
}

// Read answers l as lines of texts.
func Read(l []api.Line) []Line {
	out := make([]Line, len(l))
	for i, x := range l {
		out[i].At = x.At
		for _, t := range x.Tokens {
			out[i].Text = append(out[i].Text, part{token: t})
		}
	}
	return out
}

// write answers the lines that texts are.
func write(l []Line) []api.Line {
	var out []api.Line
	for _, x := range l {
		out = append(out, api.Line{At: x.At, Tokens: slices.Collect(x.all())})
	}
	return out
}

// enclose answers l, that has no comma, as an inner text: nil, if it has no tokens.
func enclose(l Text) *inner {
	switch {
	case len(l) == 0:
		return nil
	case len(l) == 1 && l[0].inner != nil:
		return l[0].inner
	}
	n := l.count()
	if n <= few {
		l = l.flat()
	}
	return &inner{count: n, parts: func() Text { return l }, words: once(func() Text { return distinct(l) })}
}

// count answers how many tokens a text has, or, if it may have more than few, one more than these.
func (l Text) count() int {
	n := 0
	for _, p := range l {
		if n > few {
			return few + 1
		}
		if p.inner != nil {
			n += p.inner.count
		} else {
			n++
		}
	}
	return min(n, few+1)
}

// flat answers a text without inner ones.
func (l Text) flat() Text {
	var out Text
	for t := range l.all() {
		out = append(out, part{token: t})
	}
	return out
}

// once answers what get does, which is called once alone; it must answer parts.
func once(get func() Text) func() Text {
	var out Text
	return func() Text {
		if out == nil {
			out = get()
		}
		return out
	}
}

// distinct answers each word of a text once, in turn, and one token for all that are no words.
func distinct(l Text) Text {
	var out Text
	count := map[api.Token]int{}
	take := func(t api.Token) {
		if !word(t) {
			t = api.Token{}
		}
		t.N = 0
		count[t]++
		if count[t] == 1 {
			out = append(out, part{token: t})
		}
	}
	for _, p := range l {
		if p.inner == nil {
			take(p.token)
			continue
		}
		for _, q := range p.inner.words() {
			take(q.token)
		}
	}
	return out
}

// all tells the tokens of a text one by one.
func (l Text) all() iter.Seq[api.Token] {
	return func(yield func(t api.Token) bool) {
		rest := []Text{l}
		for len(rest) > 0 {
			last := len(rest) - 1
			l := rest[last]
			rest = rest[:last]
			if len(l) == 0 {
				continue
			}
			if len(l) > 1 {
				rest = append(rest, l[1:])
			}
			if l[0].inner != nil {
				rest = append(rest, l[0].inner.parts())
			} else if !yield(l[0].token) {
				return
			}
		}
	}
}

// head answers the first token, if that is a word, or else an empty text, that is nobody's head.
func (l Text) head() string {
	if len(l) == 0 {
		return ""
	}
	if l[0].inner != nil {
		l = l[0].inner.words()
	}
	if !word(l[0].token) {
		return ""
	}
	return l[0].token.Text
}

// Next answers the first token, and what is behind it; of a text without tokens a token that is of no kind, and nothing.
func (l Text) Next() (api.Token, Text) {
	if len(l) == 0 {
		return api.Token{}, nil
	}
	if l[0].inner == nil {
		return l[0].token, l[1:]
	}
	behind := l[1:]
	var within Text
	for l[0].inner != nil {
		l = l[0].inner.parts()
		// What is left of each stays one part: texts would else be longer each time.
		if left := enclose(l[1:]); left != nil {
			within = append(within, part{inner: left})
		}
	}
	slices.Reverse(within)
	return l[0].token, slices.Concat(within, behind)
}

// behind answers the text without its first token.
func (l Text) behind() Text {
	_, rest := l.Next()
	return rest
}

// Split answers what stands between commas: nothing, if there is no token at all.
func (l Text) Split() []Text {
	if len(l) == 0 {
		return nil
	}
	var out []Text
	from := 0
	for i, p := range l {
		if p.inner == nil && comma(p.token) {
			out = append(out, l[from:i])
			from = i + 1
		}
	}
	return append(out, l[from:])
}

func comma(t api.Token) bool { return t.Kind == api.TokSign && t.Text == "," }

func word(t api.Token) bool { return t.Kind == api.TokWord }

// fault answers what is wrong at a line, or that nothing is.
func (l Line) fault(err api.Errno) api.Fault {
	if err == api.OK {
		return api.Fault{}
	}
	return api.Fault{Err: err, At: l.At}
}
