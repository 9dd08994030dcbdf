package dis_test

import (
	"bytes"
	"math"
	"strings"
	"testing"

	"platelayer/api"
	"platelayer/dis"
)

func TestH1To(t *testing.T) {
	for _, c := range []struct {
		op, imm, at, to int
	}{
		{api.OpBt, 0, 0, 4},
		{api.OpBt, -2, 0, 0},
		{api.OpBt, -3, 2, 0},
		{api.OpBt, 127, 0, 258},
		{api.OpBt, -128, 252, 0},
		{api.OpBt, -128, 0, -252},
		{api.OpBf, 5, 1002, 1016},
		{api.OpBf, -1, 1000, 1002},
		{api.OpBra, 2047, 10, 4108},
		{api.OpBra, -2048, 4092, 0},
		{api.OpBra, -2048, 0, -4092},
		{api.OpBsr, 0, 1 << 30, 1<<30 + 4},
		{api.OpBsr, -2, 6, 6},
		{api.OpBra, 1, 3, 9},
		{api.OpLoadW, 0, 2, 6},
		{api.OpLoadW, 1, 2, 8},
		{api.OpLoadW, 255, 0, 514},
		// A load of four bytes counts from a multiple of four, whatever its own place is.
		{api.OpLoadL, 0, 0, 4},
		{api.OpLoadL, 0, 1, 4},
		{api.OpLoadL, 0, 2, 4},
		{api.OpLoadL, 0, 3, 4},
		{api.OpLoadL, 0, 4, 8},
		{api.OpLoadL, 5, 1002, 1024},
		{api.OpLoadL, 255, 2, 1024},
	} {
		// Registers have nothing to do with it.
		for _, n := range []int{0, 15} {
			i := api.Instr{Op: c.op, N: n, Imm: c.imm}
			if to, ok := dis.To(i, c.at); to != c.to || !ok {
				t.Errorf("To(%v, %d) is %d %v, not %d", i, c.at, to, ok, c.to)
			}
		}
	}
}

func TestH1ToOfOthers(t *testing.T) {
	for op := -6; op < 40; op++ {
		leads := api.OpBt <= op && op <= api.OpBsr || op == api.OpLoadW || op == api.OpLoadL
		for _, at := range []int{0, 2, 4, 1002} {
			if to, ok := dis.To(api.Instr{Op: op, N: 1, M: 1, Imm: 1}, at); ok != leads || !leads && to != 0 {
				t.Errorf("To of op %d at %d is %d %v", op, at, to, ok)
			}
		}
	}
}

func TestH1Line(t *testing.T) {
	for _, c := range []struct {
		i    api.Instr
		at   int
		want string
	}{
		{api.Instr{Op: api.OpNop}, 8, "nop"},
		{api.Instr{Op: api.OpRts}, 0, "rts"},
		{api.Instr{Op: api.OpMovI, N: 15, Imm: -128}, 0, "mov #-128,r15"},
		{api.Instr{Op: api.OpMovI, Imm: 127}, 0, "mov #127,r0"},
		{api.Instr{Op: api.OpAddI, N: 9, Imm: 16}, 0, "add #16,r9"},
		{api.Instr{Op: api.OpAddI, N: 10, Imm: -1}, 0, "add #-1,r10"},
		{api.Instr{Op: api.OpAdd, N: 1, M: 2}, 0, "add r2,r1"},
		{api.Instr{Op: api.OpMov, N: 3, M: 15}, 0, "mov r15,r3"},
		{api.Instr{Op: api.OpEq, N: 11, M: 10}, 0, "cmp/eq r10,r11"},
		{api.Instr{Op: api.OpDt, N: 7}, 0, "dt r7"},
		{api.Instr{Op: api.OpJmp, N: 4}, 0, "jmp @r4"},
		{api.Instr{Op: api.OpJsr, N: 12}, 0, "jsr @r12"},
		{api.Instr{Op: api.OpPut, N: 1, M: 2}, 0, "mov.l r2,@r1"},
		{api.Instr{Op: api.OpGet, N: 1, M: 2}, 0, "mov.l @r2,r1"},
		{api.Instr{Op: api.OpTrap, Imm: 255}, 0, "trapa #255"},
		{api.Instr{Op: api.OpTrap}, 0, "trapa #0"},
		{api.Instr{Op: api.OpBt, Imm: -2}, 0, "bt x0"},
		{api.Instr{Op: api.OpBf, Imm: -2}, 10, "bf xa"},
		{api.Instr{Op: api.OpBra, Imm: -2}, 0xabcdef0, "bra xabcdef0"},
		{api.Instr{Op: api.OpBsr, Imm: -2}, 1<<31 - 2, "bsr x7ffffffe"},
		{api.Instr{Op: api.OpLoadW, N: 3, Imm: 1}, 2, "mov.w x8,r3"},
		{api.Instr{Op: api.OpLoadL, N: 2}, 10, "mov.l xc,r2"},
		{api.Instr{Op: api.OpLoadL, N: 13, Imm: 255}, 0, "mov.l x400,r13"},
		// Where nothing can be has a number too, one below 0.
		{api.Instr{Op: api.OpBt, Imm: -128}, 0, "bt x-fc"},
	} {
		if got := dis.Line(c.i, c.at); got != c.want {
			t.Errorf("Line(%v, %d) is %q, not %q", c.i, c.at, got, c.want)
		}
	}
}

func TestH1FieldsThatAnOpHasNotMeanNothing(t *testing.T) {
	for _, c := range []struct {
		i    api.Instr
		want string
	}{
		{api.Instr{Op: api.OpNop, N: 5, M: -6, Imm: 70000}, "nop"},
		{api.Instr{Op: api.OpMovI, N: 5, M: 6, Imm: 7}, "mov #7,r5"},
		{api.Instr{Op: api.OpSub, N: 5, M: 6, Imm: 7}, "sub r6,r5"},
		{api.Instr{Op: api.OpShll, N: 5, M: 6, Imm: 7}, "shll r5"},
		{api.Instr{Op: api.OpBt, N: 5, M: 6, Imm: 7}, "bt x76"},
		{api.Instr{Op: api.OpJsr, N: 5, M: 6, Imm: 7}, "jsr @r5"},
		{api.Instr{Op: api.OpLoadL, N: 5, M: 6, Imm: 7}, "mov.l x84,r5"},
		{api.Instr{Op: api.OpPut, N: 5, M: 6, Imm: 7}, "mov.l r6,@r5"},
		{api.Instr{Op: api.OpTrap, N: 5, M: 6, Imm: 7}, "trapa #7"},
	} {
		if got := dis.Line(c.i, 100); got != c.want {
			t.Errorf("Line(%v, 100) is %q, not %q", c.i, got, c.want)
		}
	}
}

func TestH1ToAndLineNeverPanic(t *testing.T) {
	some := []int{math.MinInt, math.MinInt + 3, -1 << 31, -1, 0, 1, 16, 28, 1 << 31, math.MaxInt - 3, math.MaxInt}
	for op := -2; op < 32; op++ {
		for _, n := range some {
			for _, at := range some {
				dis.To(api.Instr{Op: op, N: n, M: n, Imm: n}, at)
				dis.Line(api.Instr{Op: op, N: n, M: n, Imm: n}, at)
			}
		}
	}
	for _, op := range some {
		i := api.Instr{Op: op, N: 1, M: 2, Imm: 3}
		if _, ok := dis.To(i, 0); ok && (op < 1 || op > 27) {
			t.Errorf("op %d leads somewhere", op)
		}
		if s := dis.Line(i, 0); s != "" && (op < 1 || op > 27) {
			t.Errorf("the line of op %d is %q", op, s)
		}
	}
}

func TestH1Text(t *testing.T) {
	for _, c := range []struct {
		b    []byte
		want []string
	}{
		{nil, nil},
		{[]byte{}, nil},
		{[]byte{0}, []string{".byte 0"}},
		{[]byte{255}, []string{".byte 255"}},
		{[]byte{0, 9}, []string{"nop"}},
		{[]byte{0, 9, 0}, []string{"nop", ".byte 0"}},
		{[]byte{0, 0, 255, 255}, []string{".word 0", ".word 65535"}},
		{[]byte{0x00, 0x09, 0x89, 0xfd}, []string{"x0:", "nop", "bt x0"}},
		// A branch to itself has its name ahead of itself.
		{[]byte{0x8b, 0xfe}, []string{"x0:", "bf x0"}},
		// Several may lead to one place, which has its name once.
		{[]byte{0xa0, 0x01, 0x90, 0x00, 0xd0, 0x00, 0x00, 0x09}, []string{"bra x6", "mov.w x6,r0", ".word 53248", "x6:", "nop"}},
		{[]byte{0xaf, 0xfe, 0xaf, 0xfd}, []string{"x0:", "bra x0", "bra x0"}},
		// A load of four bytes may be anywhere, if where it begins is there.
		{[]byte{0xd1, 0x00, 0, 9, 0, 9}, []string{"mov.l x4,r1", "nop", "x4:", "nop"}},
		{[]byte{0xd1, 0x00, 0, 9}, []string{".word 53504", "nop"}},
		{[]byte{0, 9, 0xd1, 0x00, 7}, []string{"nop", "mov.l x4,r1", "x4:", ".byte 7"}},
		{[]byte{0, 9, 0xd1, 0x00}, []string{"nop", ".word 53504"}},
		// Names stand ahead of what is no instruction too.
		{[]byte{0x91, 0, 0, 9, 0, 0}, []string{"mov.w x4,r1", "nop", "x4:", ".word 0"}},
		// What leads out, by one half word, is a number, and nothing is named for it.
		{[]byte{0x89, 0xfd, 0, 9}, []string{".word 35325", "nop"}},
		{[]byte{0x89, 0xfe, 0x8b, 0xfc}, []string{"x0:", "bt x0", ".word 35836"}},
		{[]byte{0xa0, 0x00, 0, 9}, []string{".word 40960", "nop"}},
		{[]byte{0xa0, 0x00, 0, 9, 5}, []string{"bra x4", "nop", "x4:", ".byte 5"}},
		{[]byte{0xb8, 0x00, 0xb7, 0xff}, []string{".word 47104", ".word 47103"}},
		// What leads by registers leads nowhere that could be told.
		{[]byte{0x40, 0x2b, 0x4f, 0x0b, 0x00, 0x0b}, []string{"jmp @r0", "jsr @r15", "rts"}},
		// The last byte is half of nothing, whatever it would be.
		{[]byte{0, 9, 0xe1}, []string{"nop", ".byte 225"}},
		{[]byte{0xe1, 0x80, 0x71, 0x7f, 0x20, 0x12, 0x62, 0x32, 0xc3, 0xff}, []string{"mov #-128,r1", "add #127,r1", "mov.l r1,@r0", "mov.l @r3,r2", "trapa #255"}},
	} {
		want := ""
		for _, s := range c.want {
			want += s + "\n"
		}
		if got := dis.Text(c.b); got != want {
			t.Errorf("Text(%x) is %q, not %q", c.b, got, want)
		}
	}
}

func TestH1TextOfFarPlaces(t *testing.T) {
	b := bytes.Repeat([]byte{0, 9}, 2051)
	want := strings.Split(strings.Repeat("nop\n", 2051), "\n")
	for _, c := range []struct {
		at, w int
		line  string
	}{
		{0, 0xa7ff, "bra x1002"},
		{2, 0xd4ff, "mov.l x400,r4"},
		{4, 0xa7ff, ".word 43007"}, // to just behind the end
		{6, 0x897f, "x6:\nbt x108"},
		{8, 0x95ff, "x8:\nmov.w x20a,r5"},
		{264, 0x8b80, "x108:\nbf xc"},
		{12, 0x8b80, "xc:\n.word 35712"}, // to far ahead of the beginning
		{522, 0x0009, "x20a:\nnop"},
		{1024, 0x0000, "x400:\n.word 0"},
		{4098, 0xa800, "x1002:\nbra x6"},
		{4100, 0xb800, "bsr x8"},
	} {
		b[c.at], b[c.at+1] = byte(c.w>>8), byte(c.w)
		want[c.at/2] = c.line
	}
	if got := dis.Text(b); got != strings.Join(want, "\n") {
		t.Errorf("Text is %q, not %q", got, strings.Join(want, "\n"))
	}
}

func TestH1TextOnlyReadsWhatIsThere(t *testing.T) {
	// Behind each end stands what would make another answer of it.
	room := []byte{0xa0, 0x00, 0x00, 0x09, 0x00, 0x09, 0x00, 0x09}
	before := bytes.Clone(room)
	for end := range len(room) + 1 {
		alone := bytes.Clone(room[:end])
		if got, want := dis.Text(room[:end]), dis.Text(alone[:end:end]); got != want {
			t.Errorf("Text of %d bytes with others behind them is %q, not %q", end, got, want)
		}
	}
	if !bytes.Equal(room, before) {
		t.Errorf("Text leaves %x", room)
	}
	got := dis.Text(room)
	clear(room)
	if want := "bra x4\nnop\nx4:\nnop\nnop\n"; got != want {
		t.Errorf("changed behind the call, the text is %q, not %q", got, want)
	}
}

func TestH1TextOfMuch(t *testing.T) {
	// Each one leads to the one ahead of it, so that all have names: time grows as the bytes do.
	const many = 1 << 20
	got := dis.Text(bytes.Repeat([]byte{0xaf, 0xfd}, many))
	if n := strings.Count(got, "\n"); n != 2*many-1 {
		t.Errorf("%d half words have %d lines", many, n)
	}
	if !strings.HasPrefix(got, "x0:\n.word 45053\nx2:\nbra x0\n") || !strings.HasSuffix(got, "\nbra x1ffffc\n") {
		t.Errorf("Text begins with %.60q, and ends with %q", got, got[len(got)-60:])
	}
}
