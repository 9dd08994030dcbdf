package asm

import (
	"slices"
	"strconv"

	"platelayer/api"
	"platelayer/macro"
	"platelayer/scan"
)

// Kinds of operands: signs, where they begin with one.
const (
	ofNumber   = "#"
	ofAt       = "@"
	ofPool     = "="
	ofRegister = "r"
	ofPlace    = "p"
)

// registers is how many there are.
const registers = 16

// operand of a line: its kind, and the register or the value that it has.
type operand struct {
	kind     string
	register int
	value    api.Value
}

// readLabels keeps the labels that l begins with, and answers what stands behind them.
func (u *unit) readLabels(l macro.Text) (macro.Text, api.Errno) {
	for {
		first, rest := l.Next()
		second, rest := rest.Next()
		if !isWord(first) || !isSign(second, ":") {
			return l, api.OK
		}
		if !u.free(first) {
			return nil, api.ErrName
		}
		u.labels[first.Text] = len(u.items)
		u.names = append(u.names, first.Text)
		l = rest
	}
}

// free answers whether a word may be a label.
func (u *unit) free(t api.Token) bool {
	_, there := u.labels[t.Text]
	equ := func(q api.Equ) bool { return q.Name == t.Text }
	return !there && scan.Name(t.Text) && register(t) < 0 && !slices.ContainsFunc(u.equs, equ)
}

// operands answers those that l has, with commas between.
func (u *unit) operands(l macro.Text) ([]operand, api.Errno) {
	between := l.Split()
	var out []operand
	for i, x := range between {
		o, err := u.operand(x)
		if err == api.ErrEnd && i < len(between)-1 {
			// Not all ends there: a comma stands where something else should.
			err = api.ErrForm
		}
		if err != api.OK {
			return nil, err
		}
		out = append(out, o)
	}
	return out, api.OK
}

// operand answers the one that all of l is.
func (u *unit) operand(l macro.Text) (operand, api.Errno) {
	first, rest := l.Next()
	switch {
	case len(l) == 0:
		return operand{}, api.ErrForm
	case isSign(first, ofNumber), isSign(first, ofPool):
		return u.expression(first.Text, rest)
	case isSign(first, ofAt):
		return lone(ofAt, rest)
	case register(first) >= 0:
		return lone(ofRegister, l)
	}
	return u.expression(ofPlace, l)
}

// expression answers the operand of that kind whose value all of l is. What is wrong with the expression comes ahead of what stands behind it.
func (u *unit) expression(kind string, l macro.Text) (operand, api.Errno) {
	v, all, err := l.First(u.equs)
	switch {
	case err != api.OK:
		return operand{}, err
	case !all:
		return operand{}, api.ErrForm
	}
	return operand{kind: kind, value: v}, api.OK
}

// lone answers the operand of that kind whose register all of l is.
func lone(kind string, l macro.Text) (operand, api.Errno) {
	first, rest := l.Next()
	n := register(first)
	if n < 0 || len(rest) > 0 {
		return operand{}, api.ErrForm
	}
	return operand{kind: kind, register: n}, api.OK
}

// register answers which register a token is: -1, if it is none.
func register(t api.Token) int {
	for n := range registers {
		if isWord(t) && t.Text == "r"+strconv.Itoa(n) {
			return n
		}
	}
	return -1
}

func isWord(t api.Token) bool { return t.Kind == api.TokWord }

func isSign(t api.Token, text string) bool { return t.Kind == api.TokSign && t.Text == text }
