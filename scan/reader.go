package scan

import (
	"strconv"
	"strings"

	"platelayer/api"
)

// reader answers a function that tells one more token of s with each call; behind the last one it tells a token of no kind.
func reader(s string) func() (api.Token, api.Errno) {
	cut := func(n int) string {
		text := s[:n]
		s = s[n:]
		return text
	}
	take := func(in func(c byte) bool) string { return cut(span(s, in)) }
	return func() (api.Token, api.Errno) {
		take(blank)
		switch {
		case s == "":
			return api.Token{}, api.OK
		case letter(s[0]):
			return api.Token{Kind: api.TokWord, Text: take(inWord)}, api.OK
		case digit(s[0]):
			return number(take(inNumber))
		}
		return sign(cut(signLength(s)))
	}
}

// span answers how many bytes there are from the beginning of s on that are all in.
func span(s string, in func(c byte) bool) int {
	n := 0
	for n < len(s) && in(s[n]) {
		n++
	}
	return n
}

func blank(c byte) bool { return strings.IndexByte(blanks, c) >= 0 }

func digit(c byte) bool { return '0' <= c && c <= '9' }

func letter(c byte) bool {
	return 'a' <= c && c <= 'z' || 'A' <= c && c <= 'Z' || c == '_' || c == '.'
}

func inWord(c byte) bool { return letter(c) || digit(c) || c == '/' }

// inNumber takes more than any number has, so that 12ab is a wrong number, and not a number and a word.
func inNumber(c byte) bool { return digit(c) || letter(c) && c != '.' }

// number answers the token of a number's text: ErrForm, if it is none, or too large.
func number(text string) (api.Token, api.Errno) {
	digits, base := text, 10
	if rest, ok := strings.CutPrefix(text, "0x"); ok {
		digits, base = rest, 16
	}
	n, err := strconv.ParseUint(digits, base, 32)
	if err != nil {
		return api.Token{}, api.ErrForm
	}
	return api.Token{Kind: api.TokNumber, N: int(n)}, api.OK
}

// sign answers the token of a sign's text: ErrForm, if it is empty.
func sign(text string) (api.Token, api.Errno) {
	if text == "" {
		return api.Token{}, api.ErrForm
	}
	return api.Token{Kind: api.TokSign, Text: text}, api.OK
}

// signLength answers how many bytes the sign at the beginning of s has: 0, if there is none.
func signLength(s string) int {
	switch {
	case strings.HasPrefix(s, "<<"), strings.HasPrefix(s, ">>"):
		return 2
	case s != "" && strings.IndexByte(signs, s[0]) >= 0:
		return 1
	}
	return 0
}
