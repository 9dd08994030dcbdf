package dis_test

import (
	"bytes"
	"fmt"
	"math/rand/v2"
	"strconv"
	"strings"
	"sync"
	"testing"

	"platelayer/api"
	"platelayer/asm"
	"platelayer/dis"
	"platelayer/isa"
	"platelayer/link"
	"platelayer/scan"
)

// forms are the bits of each instruction as the document's chapter writes them, and its line: N and M stand for registers, S and U for
// the number with a sign and without one, and P, W and L for a place that is led to by a number with a sign, by half words, by words.
var forms = [][2]string{
	{"0000000000001001", "nop"},
	{"0000000000001011", "rts"},
	{"1110nnnniiiiiiii", "mov #S,rN"},
	{"0111nnnniiiiiiii", "add #S,rN"},
	{"0110nnnnmmmm0011", "mov rM,rN"},
	{"0011nnnnmmmm1100", "add rM,rN"},
	{"0011nnnnmmmm1000", "sub rM,rN"},
	{"0010nnnnmmmm1001", "and rM,rN"},
	{"0010nnnnmmmm1011", "or rM,rN"},
	{"0010nnnnmmmm1010", "xor rM,rN"},
	{"0010nnnnmmmm1000", "tst rM,rN"},
	{"0011nnnnmmmm0000", "cmp/eq rM,rN"},
	{"0011nnnnmmmm0111", "cmp/gt rM,rN"},
	{"0100nnnn00000000", "shll rN"},
	{"0100nnnn00000001", "shlr rN"},
	{"0100nnnn00010000", "dt rN"},
	{"10001001iiiiiiii", "bt P"},
	{"10001011iiiiiiii", "bf P"},
	{"1010iiiiiiiiiiii", "bra P"},
	{"1011iiiiiiiiiiii", "bsr P"},
	{"0100nnnn00101011", "jmp @rN"},
	{"0100nnnn00001011", "jsr @rN"},
	{"1001nnnniiiiiiii", "mov.w W,rN"},
	{"1101nnnniiiiiiii", "mov.l L,rN"},
	{"0010nnnnmmmm0010", "mov.l rM,@rN"},
	{"0110nnnnmmmm0010", "mov.l @rM,rN"},
	{"11000011iiiiiiii", "trapa #U"},
}

// fields answers the bits of w that stand where each letter does, if all others are as the form has them.
func fields(form string, w int) (map[rune]string, bool) {
	out := map[rune]string{}
	bits := fmt.Sprintf("%016b", w)
	for k, c := range form {
		switch bit := bits[k : k+1]; {
		case c >= 'a':
			out[c] += bit
		case bit != string(c):
			return nil, false
		}
	}
	return out, true
}

// unsigned reads bits; none of them are 0.
func unsigned(bits string) int {
	n, _ := strconv.ParseInt("0"+bits, 2, 64)
	return int(n)
}

// signed reads bits, of which the first one counts below 0.
func signed(bits string) int {
	n := unsigned(bits)
	if strings.HasPrefix(bits, "1") {
		n -= 1 << len(bits)
	}
	return n
}

// read is a half word as an instruction: its line, with letters in it, and what stands for these.
type read struct {
	line            string
	n, m            int
	signed, without int
}

// all is each half word that is an instruction, read bit by bit.
var all = sync.OnceValue(func() map[int]read {
	out := map[int]read{}
	for w := range 65536 {
		for _, form := range forms {
			if f, ok := fields(form[0], w); ok {
				out[w] = read{form[1], unsigned(f['n']), unsigned(f['m']), signed(f['i']), unsigned(f['i'])}
			}
		}
	}
	return out
})

// plainLine answers the line of a half word at a place, and where that leads: false, of what is no instruction, or leads nowhere.
func plainLine(w, at int) (line string, is bool, to int, leads bool) {
	x, is := all()[w]
	switch {
	case strings.Contains(x.line, "P"):
		to, leads = at+4+2*x.signed, true
	case strings.Contains(x.line, "W"):
		to, leads = at+4+2*x.without, true
	case strings.Contains(x.line, "L"):
		to, leads = (at+4)/4*4+4*x.without, true
	}
	for letter, s := range map[string]string{"N": fmt.Sprint(x.n), "M": fmt.Sprint(x.m), "S": fmt.Sprint(x.signed), "U": fmt.Sprint(x.without),
		"P": fmt.Sprintf("x%x", to), "W": fmt.Sprintf("x%x", to), "L": fmt.Sprintf("x%x", to)} {
		x.line = strings.ReplaceAll(x.line, letter, s)
	}
	return x.line, is, to, leads
}

// plainText puts down lines by their places first, then names, then all in turn.
func plainText(b []byte) string {
	lines, names := map[int]string{}, map[int]string{}
	for at := 0; at+1 < len(b); at += 2 {
		w := 256*int(b[at]) + int(b[at+1])
		line, is, to, leads := plainLine(w, at)
		inside := to >= 0 && to < len(b)
		if !is || leads && !inside {
			line, leads = fmt.Sprintf(".word %d", w), false
		}
		lines[at] = line + "\n"
		if leads {
			names[to] = fmt.Sprintf("x%x:\n", to)
		}
	}
	if len(b)%2 == 1 {
		lines[len(b)-1] = fmt.Sprintf(".byte %d\n", b[len(b)-1])
	}
	out := ""
	for at := range b {
		out += names[at] + lines[at]
	}
	return out
}

// together assembles a text line by line: as one source it may be too much.
func together(t *testing.T, text string) api.Object {
	t.Helper()
	var lines []api.Line
	for k, s := range strings.Split(text, "\n") {
		l, err := scan.Tokens(s)
		if err != api.OK {
			t.Fatalf("line %q has error %d", s, err)
		}
		lines = append(lines, api.Line{At: k + 1, Tokens: l})
	}
	o, f := asm.Build(lines, nil)
	if f != (api.Fault{}) {
		t.Fatalf("%q has fault %v", text, f)
	}
	return o
}

// again fails if a text does not come to be b again, with no more names than those it has, in turn.
func again(t *testing.T, text string, b []byte) {
	t.Helper()
	o := together(t, text)
	if !bytes.Equal(o.Code, b) || len(o.Relocs) > 0 {
		t.Fatalf("%x is taken apart, and %x %v comes of it", b, o.Code, o.Relocs)
	}
	names := ""
	for _, s := range o.Syms {
		if names += s.Name + ":\n"; s.Name != fmt.Sprintf("x%x", s.At) {
			t.Fatalf("%s stands at %d", s.Name, s.At)
		}
	}
	named := ""
	for s := range strings.Lines(text) {
		if strings.HasSuffix(s, ":\n") {
			named += s
		}
	}
	if names != named {
		t.Fatalf("%q has other names: %q", text, names)
	}
}

func TestH1AllInstructions(t *testing.T) {
	count := 0
	for w := range 65536 {
		i, err := isa.Decode(w)
		if err != api.OK {
			continue
		}
		count++
		for _, at := range []int{0, 1, 2, 3, 1002, 8000, 1<<20 + 6, 1<<31 - 2} {
			line, is, to, leads := plainLine(w, at)
			if got, ok := dis.To(i, at); !is || got != to || ok != leads {
				t.Fatalf("To(%v, %d) is %d %v, not %d %v", i, at, got, ok, to, leads)
			}
			if leads && to < 0 {
				continue
			}
			if got := dis.Line(i, at); got != line {
				t.Fatalf("Line(%v, %d) is %q, not %q", i, at, got, line)
			}
		}
	}
	if count < 20000 {
		t.Errorf("only %d half words are instructions", count)
	}
}

func TestH1AllHalfWordsInText(t *testing.T) {
	// At places of both kinds, and with room on both sides for some, not for all.
	for w := range 65536 {
		b := bytes.Repeat([]byte{0, 9}, 9)[:17]
		k := 8 + 2*(w%3)
		b[k], b[k+1] = byte(w>>8), byte(w)
		got := dis.Text(b)
		if want := plainText(b); got != want {
			t.Fatalf("Text(%x) is %q, not %q", b, got, want)
		}
		if w%7 == 0 {
			again(t, got, b)
		}
	}
}

// made is bytes of which many lead somewhere, most of them to where something is.
func made(r *rand.Rand, n int) []byte {
	b := make([]byte, n)
	for i := range b {
		b[i] = byte(r.Uint32())
	}
	for i := 0; i+1 < n; i += 2 {
		switch r.IntN(4) {
		case 0: // one of few places behind it
			b[i], b[i+1] = []byte{0x89, 0x8b, 0xa0, 0xb0, 0x90, 0xdf}[r.IntN(6)], byte(r.IntN(n/2+1))
		case 1: // one of few places ahead of it
			b[i], b[i+1] = []byte{0x89, 0x8b, 0xaf, 0xbf}[r.IntN(4)], byte(-r.IntN(n/2+1))
		}
	}
	return b
}

func TestH1TakenApartAndPutTogether(t *testing.T) {
	r := rand.New(rand.NewPCG(8, 1))
	seen := map[string]int{}
	for k := range 6000 {
		n := r.IntN(60)
		if k%400 == 0 {
			n = 300 + r.IntN(api.MaxCode-300+1)
		}
		b := made(r, n)
		got := dis.Text(b)
		if want := plainText(b); got != want {
			t.Fatalf("Text(%x) is %q, not %q", b, got, want)
		}
		again(t, got, b)
		for s := range strings.Lines(got) {
			head, operands, _ := strings.Cut(strings.TrimSpace(s), " ")
			if strings.HasSuffix(head, ":") {
				head = "a name"
			}
			if strings.HasPrefix(operands, "x") {
				head += " of a place"
			}
			seen[head]++
		}
	}
	for _, s := range []string{".word", ".byte", "a name", "mov", "mov.l", "trapa", "bt of a place", "bf of a place", "bra of a place",
		"bsr of a place", "mov.w of a place", "mov.l of a place"} {
		if seen[s] < 100 {
			t.Errorf("only %d lines are %s", seen[s], s)
		}
	}
}

func TestH1OfAnImage(t *testing.T) {
	// What is assembled, linked and taken apart comes to be the same image, with numbers where names were told.
	source := "mov.l =b,r1\njsr @r1\nnop\ntrapa #0\n.pool\na: .word 3\n.byte 1"
	more := "b: mov #3,r2\nloop: dt r2\nbf loop\nrts\nnop\n.align 4\n.long a"
	var l []api.Object
	for _, s := range []string{source, more} {
		o, f := asm.Unit([]byte(s))
		if f != (api.Fault{}) {
			t.Fatalf("%q has fault %v", s, f)
		}
		l = append(l, o)
	}
	image, f := link.Link(l, 0)
	if f != (api.Fault{}) {
		t.Fatalf("the image has fault %v", f)
	}
	text := dis.Text(image.Bytes)
	want := "mov.l x8,r1\njsr @r1\nnop\ntrapa #0\nx8:\n.word 0\n.word 16\n.word 3\n.word 256\nmov #3,r2\nx12:\ndt r2\nbf x12\nrts\nnop\n.word 0\n.word 0\n.word 12\n"
	if text != want {
		t.Errorf("the text is %q, not %q", text, want)
	}
	again(t, text, image.Bytes)
	if o, f := asm.Unit([]byte(text)); !bytes.Equal(o.Code, image.Bytes) || f != (api.Fault{}) {
		t.Errorf("Unit of the text is %v %v", o, f)
	}
}
