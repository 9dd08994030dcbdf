package asm_test

import (
	"math/big"
	"reflect"
	"runtime"
	"slices"
	"strconv"
	"strings"
	"testing"

	"platelayer/api"
	"platelayer/asm"
)

// unit is what Unit makes of s; it fails if that asks for much room.
func unit(t *testing.T, s string) (api.Object, api.Fault) {
	t.Helper()
	if len(s) > api.MaxSource {
		t.Fatalf("%q has %v bytes", s, len(s))
	}
	var before, behind runtime.MemStats
	runtime.ReadMemStats(&before)
	o, f := asm.Unit([]byte(s))
	runtime.ReadMemStats(&behind)
	if bytes := behind.TotalAlloc - before.TotalAlloc; bytes > 8<<20 {
		t.Fatalf("Unit(%q) asks for %v bytes", s, bytes)
	}
	return o, f
}

// handed is six macros, each of which hands on n times what it is called with; the last one has that in its line, where xs is.
func handed(n int, line, arg string) string {
	x := strings.TrimSuffix(strings.Repeat("x ", n), " ")
	s := ""
	for _, m := range []string{"ab", "bc", "cd", "de", "ef"} {
		s += ".macro " + m[:1] + " x\n" + m[1:] + " " + x + "\n.endm\n"
	}
	return s + ".macro f x\n" + strings.ReplaceAll(line, "xs", x) + "\n.endm\na " + arg
}

func TestE1NumbersOfMuchThatIsHandedOn(t *testing.T) {
	for _, n := range []int{1, 2, 3, 7, 30} {
		times := int64(n * n * n * n * n * n)
		power := new(big.Int).Exp(big.NewInt(3), big.NewInt(times), big.NewInt(1<<32)).Int64()
		for _, c := range []struct {
			line, arg string
			want      int64
		}{
			{".long 5 xs", "+ 1", 5 + times},
			{".long 1 xs", "* 3", power},
			{"q: .long (2 xs)", ") + (1", 2 + times},
			{".long z xs - z", "- z + z + 1", times},
			{".long q+1 xs\nq:", "- q + q + 0", 5},
		} {
			o, f := unit(t, handed(n, c.line, c.arg))
			code := []byte{byte(c.want >> 24), byte(c.want >> 16), byte(c.want >> 8), byte(c.want)}
			if len(o.Relocs) > 0 && o.Relocs[0] == (api.Reloc{Size: 4, Add: int(c.want)}) {
				code = []byte{0, 0, 0, 0}
			}
			if !slices.Equal(o.Code, code) || f != (api.Fault{}) {
				t.Errorf("%v, %v times, is %v %v", c, n, o, f)
			}
		}
		o, f := unit(t, handed(n, "mov #1 xs , r1\nmov.l =zz xs, r2\nbra q xs\nq: trapa # 7 xs", "+ 0"))
		if !slices.Equal(o.Code, []byte{0xe1, 1, 0xd2, 1, 0xaf, 0xff, 0xc3, 7, 0, 0, 0, 0}) || f != (api.Fault{}) {
			t.Errorf("instructions, %v times, are %v %v", n, o, f)
		}
	}
}

func TestE1MuchThatIsHandedOnIsWrong(t *testing.T) {
	for _, c := range []struct {
		line, arg string
		err       api.Errno
	}{
		{".long xs", "z", api.ErrForm},
		{".long xs", "- z", api.ErrFit},
		{".long 1 xs", "+ z", api.ErrFit},
		{".long - z xs", "z", api.ErrFit},
		{".long xs .x", "1 +", api.ErrName},
		{".long xs", "1 +", api.ErrEnd},
		{".long xs, 1", "1 +", api.ErrForm},
		{".long xs", "(", api.ErrDeep},
		{".long xs", "( 1", api.ErrForm},
		{".byte 1 xs", "* 2 + 300", api.ErrRange},
		{"xs", "z:", api.ErrName},
		{"y: xs", "5", api.ErrForm},
		{"xs", "z", api.ErrForm},
		{"xs", "nop", api.ErrForm},
		{"shll xs", "r1", api.ErrForm},
		{"jmp xs", "@ r1", api.ErrForm},
		{"jmp xs", "@", api.ErrForm},
		{"trapa xs", "#", api.ErrForm},
		{"trapa xs", "# 1", api.ErrForm},
		{"trapa # xs 1", "1 +", api.ErrRange},
		{"trapa # xs", "~ z |", api.ErrEnd},
		{"bra 0 xs", "+ 1", api.ErrFit},
		{"bra z xs", "+ 1", api.ErrNone},
		{"w: bra w + 1 xs", "* 3", api.ErrAlign},
		{"zap 1 xs", "+ 1", api.ErrKind},
		{".pool xs", "z z", api.ErrForm},
	} {
		for _, n := range []int{7, 30} {
			s := handed(n, c.line, c.arg)
			if o, f := unit(t, s); f != (api.Fault{Err: c.err, At: strings.Count(s, "\n") + 1}) || !reflect.DeepEqual(o, api.Object{}) {
				t.Errorf("%v, %v times, is %v %v", c, n, o, f)
			}
		}
	}
}

// TestE1MacrosThatDefineOthers: what the last one is called with has the first one's text, twice as long with each of them.
func TestE1MacrosThatDefineOthers(t *testing.T) {
	for _, n := range []int{1, 2, 16, 60} {
		s := ".macro a n x\n.macro n f q\nf q,x x\n.endm\n.endm\n.macro e n x\nn 1 x\n.endm\na b0,+ 3\n"
		for i := range n {
			s += "b" + strconv.Itoa(i) + " a,b" + strconv.Itoa(i+1) + "\n"
		}
		want := new(big.Int).Mul(big.NewInt(3), new(big.Int).Lsh(big.NewInt(1), uint(n+1)))
		low := int32(uint32(want.Uint64()) + 1)
		o, f := unit(t, s+"b"+strconv.Itoa(n)+" e,.long")
		if !slices.Equal(o.Code, []byte{byte(low >> 24), byte(low >> 16), byte(low >> 8), byte(low)}) || f != (api.Fault{}) {
			t.Errorf("%v of them are %v %v, not %v", n, o, f, low)
		}
		for name, err := range map[string]api.Errno{".word": api.ErrRange, "zap": api.ErrKind, "5": api.ErrForm, ".align": api.ErrRange} {
			if n < 16 && name == ".word" || n == 60 && name != "zap" && name != "5" {
				continue
			}
			if o, f := unit(t, s+"b"+strconv.Itoa(n)+" e,"+name); f != (api.Fault{Err: err, At: 10 + n}) || !reflect.DeepEqual(o, api.Object{}) {
				t.Errorf("%v of them, with %v, are %v %v", n, name, o, f)
			}
		}
	}
}
