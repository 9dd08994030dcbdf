package asm_test

import (
	"slices"
	"strconv"
	"strings"
	"testing"

	"platelayer/api"
)

// gap is a line of n bytes.
func gap(n int) string { return ".byte 0" + strings.Repeat(", 0", n-1) }

// joined is lines as a text.
func joined(l ...string) string { return strings.Join(l, "\n") }

// parts fails if s has not these bytes from those places on, or not so many in all.
func parts(t *testing.T, s string, count int, want map[int]string) {
	t.Helper()
	o, f := build(t, s)
	if f != (api.Fault{}) || len(o.Code) != count {
		t.Errorf("%.200q has %v bytes, %v, not %v", s, len(o.Code), f, count)
		return
	}
	for at, x := range want {
		got := ""
		for _, b := range o.Code[at : at+len(x)/2] {
			got += strconv.FormatInt(int64(b)>>4, 16) + strconv.FormatInt(int64(b)&15, 16)
		}
		if got != x {
			t.Errorf("%.200q has %v at %v, not %v", s, got, at, x)
		}
	}
}

func TestE3BranchesAtTheEndsOfTheirRange(t *testing.T) {
	for _, c := range []struct{ name, short, other string }{{"bt", "89", "8b"}, {"bf", "8b", "89"}} {
		// From place 0 short ones lead to 4 + 2*127, at most; long ones from 6, by bra.
		parts(t, joined(c.name+" a", gap(256), "a: nop"), 260, map[int]string{0: c.short + "7f"})
		parts(t, joined(c.name+" a", gap(258), "a: nop"), 266, map[int]string{0: c.other + "01a0810009", 264: "0009"})
		parts(t, joined(c.name+" a+2", gap(256), "a: nop"), 264, map[int]string{0: c.other + "01a0810009"})
		parts(t, joined("a: "+gap(252), c.name+" a"), 254, map[int]string{252: c.short + "80"})
		parts(t, joined("a: "+gap(254), c.name+" a"), 260, map[int]string{254: c.other + "01af7e0009"})
		parts(t, joined("a: "+gap(252), c.name+" a-2"), 258, map[int]string{252: c.other + "01af7e0009"})
		// The bra at 2 leads to 6 + 2*2047, at most, or to 2*2048 ahead of its place and 4, at least.
		parts(t, joined(c.name+" a", gap(4094), "a: nop"), 4102, map[int]string{0: c.other + "01a7ff0009"})
		wrong(t, joined(c.name+" a", gap(4096), "a: nop"), api.ErrRange, 1)
		parts(t, joined("a: "+gap(4090), c.name+" a"), 4096, map[int]string{4090: c.other + "01a8000009"})
		wrong(t, joined("a: "+gap(4092), c.name+" a"), api.ErrRange, 2)
		wrong(t, joined("a: "+c.name+" a+2147483646"), api.ErrRange, 1)
		wrong(t, joined("a: "+c.name+" a-2147483648"), api.ErrRange, 1)
	}
	parts(t, joined("bra a", gap(4096), "a: nop"), 4100, map[int]string{0: "a7ff"})
	wrong(t, joined("bra a", gap(4098), "a: nop"), api.ErrRange, 1)
	parts(t, joined("a: "+gap(4092), "bsr a"), 4094, map[int]string{4092: "b800"})
	wrong(t, joined("a: "+gap(4094), "bsr a"), api.ErrRange, 2)
}

func TestE3BranchesThatComeToBeLong(t *testing.T) {
	// The second one is long for itself, and so the first one is; without it that is short.
	parts(t, joined("bt a", gap(250), "bf b", "nop", "nop", "a: "+gap(300), "b: nop"), 568, map[int]string{0: "8b01a0820009", 256: "8901a0980009"})
	parts(t, joined("bt a", gap(250), "bf a", "nop", "nop", "a: "+gap(300), "b: nop"), 560, map[int]string{0: "897f", 252: "8b01"})
	// Each one is long since the next one is, and no other one is in its way: places are told again for each of them.
	chain := ""
	for i := range 12 {
		chain += joined("bt t"+strconv.Itoa(i+1), gap(56), "t"+strconv.Itoa(i)+":", gap(142)) + "\n"
	}
	parts(t, joined(chain, gap(58), "t12: nop"), 12*200+60, map[int]string{0: "897f", 2200: "897f"})
	parts(t, joined(chain, gap(60), "t12: nop"), 12*204+62, map[int]string{0: "8b01a0820009", 2244: "8b01a0810009"})
}

// wantPlaces fails if these labels stand elsewhere: a name and its place, and so on.
func wantPlaces(t *testing.T, s string, l ...any) {
	t.Helper()
	o, f := build(t, s)
	for i := 0; i < len(l); i += 2 {
		if want := (api.Sym{Name: l[i].(string), At: l[i+1].(int)}); f != (api.Fault{}) || !slices.Contains(o.Syms, want) {
			t.Errorf("%.200q has %v %v, not %v", s, o.Syms, f, want)
		}
	}
}

func TestE3PlacesAreToldAgain(t *testing.T) {
	// Noughts are told again, too: what was long stays so, also where it need not be any more.
	wantPlaces(t, joined("bt b", "c: nop", ".align 16", gap(254), "b: nop"), "c", 6, "b", 270)
	wantPlaces(t, joined("bt b", "c: bt b", gap(258), ".align 16", "b: nop"), "c", 6, "b", 272)
	wantPlaces(t, joined("bt b", "c: nop", gap(252), "b: nop"), "c", 2, "b", 256)
	// Labels ahead of, and behind, what moves.
	wantAll(t, joined("bt z", "a: mov.l =a,r1", ".word a,b", "b: .align 4", gap(260), "z: .pool"), "8b01 a085 0009 d142 0000 0000"+strings.Repeat("00", 260)+"00000000",
		[]api.Sym{{Name: "a", At: 6}, {Name: "b", At: 12}, {Name: "z", At: 272}}, []api.Reloc{{At: 8, Size: 2, Add: 6}, {At: 10, Size: 2, Add: 12}, {At: 272, Size: 4, Add: 6}})
}

// TestE3BranchesOfOneTime: all that are out of Range by the places that are told come to be long at once, also those that would
// not be any more, if one of them alone were.
func TestE3BranchesOfOneTime(t *testing.T) {
	// b is at 272, whichever are long: if the first one were long alone, the second one, that is out of Range, would reach it.
	parts(t, joined("bt b", rows(5, "nop"), "bt b", gap(246), ".align 16", "b: nop"), 274, map[int]string{0: "8b01a0850009", 16: "8b01a07d0009"})
	parts(t, joined("bt b", rows(6, "nop"), "bt b", gap(246), ".align 16", "b: nop"), 274, map[int]string{0: "8b01a0850009", 18: "897d"})
}

func TestE3HowMuchThereMayBe(t *testing.T) {
	parts(t, joined(gap(4000), gap(4000)), 8000, nil)
	wrong(t, joined(gap(4000), gap(4001)), api.ErrMuch, 0)
	parts(t, rows(2000, ".long 1"), 8000, nil)
	wrong(t, rows(2001, ".long 1"), api.ErrMuch, 0)
	parts(t, rows(4000, "nop"), 8000, nil)
	wrong(t, rows(4001, "nop"), api.ErrMuch, 0)
	parts(t, joined(gap(7985), ".align 16"), 8000, nil)
	wrong(t, joined(gap(8000), ".align 16", ".byte 1"), api.ErrMuch, 0)
	parts(t, joined("mov.l =1,r1", gap(900), "nop", ".pool", gap(7092)), 8000, nil)
	parts(t, joined(gap(7989), ".align 2", "mov.l =1,r1", "nop"), 8000, nil)
	wrong(t, joined(gap(7989), ".align 2", "mov.l =1,r1", "nop", "nop", "nop"), api.ErrMuch, 0)
	wrong(t, joined(gap(7989), ".align 2", "mov.l =1,r1", "mov.l =2,r1"), api.ErrMuch, 0)
	// Branches that come to be long.
	parts(t, joined("bt a", gap(500), "a: "+gap(7494)), 8000, nil)
	wrong(t, joined("bt a", gap(500), "a: "+gap(7495)), api.ErrMuch, 0)
	wrong(t, joined("bt a", gap(500), "a: "+gap(7498)), api.ErrMuch, 0)
	wrong(t, joined("bt a+1", gap(500), "a: "+gap(7495)), api.ErrMuch, 0)
	wrong(t, joined("bt a+1", gap(500), "a: "+gap(7494)), api.ErrAlign, 1)
	wrong(t, joined("bt zz", gap(500), "a: "+gap(7498)), api.ErrNone, 1)
	wrong(t, joined("bt 5000", gap(500), "a: "+gap(7498)), api.ErrFit, 1)
}

func TestE3LinesThatHaveNoBytes(t *testing.T) {
	many := rows(20000, ".align 4\n.pool")
	wantAll(t, many+"\na: nop\n"+many, "0009 0000", []api.Sym{{Name: "a"}}, nil)
	var b strings.Builder
	var syms []api.Sym
	for i := range 5000 {
		name := "l" + strconv.Itoa(i)
		b.WriteString(name + ":\n")
		syms = append(syms, api.Sym{Name: name, At: 2})
	}
	wantAll(t, "nop\n"+b.String(), "0009", syms, nil)
}

func TestE4WhatStandsWhereItMay(t *testing.T) {
	want(t, ".byte 1,2\nnop\n.byte 3,4\n.word 5,6\n.byte 7,8\n.long 9\n.byte 1", "0102 0009 0304 0005 0006 0708 00000009 01")
	for _, s := range []string{"nop", "mov #1,r1", "bt a", "bra a", "bra zz", "bt 5", "bt a+1", "mov.w a,r1", "mov.l =1,r1", "mov.l a,r1", ".word 1", ".word a", ".long 1", ".word zz,1", "b: nop"} {
		wrong(t, ".byte 1\n\n"+s+"\na: nop", api.ErrAlign, 3)
		wrong(t, "nop\n.byte 1,2,3\n\n"+s+"\na: nop", api.ErrAlign, 4)
	}
	wrong(t, "nop\n.long 1", api.ErrAlign, 2)
	wrong(t, "nop\n.long a\na:", api.ErrAlign, 2)
	wrong(t, "nop\n.word 1,2\n.align 2\n.long 1,2", api.ErrAlign, 4)
	want(t, "nop\n.align 4\n.long 1", "0009 0000 00000001")
	want(t, "nop\nnop\n.word 1,2\n.long 1\n.word 3\nmov.l =1,r1", "0009 0009 0001 0002 00000001 0003 d100 00000001")
	want(t, ".byte 1\n.byte 2,3\n.byte 4", "01020304")
	// A pool stands where it may, whatever stands ahead of it.
	want(t, "mov.l =1,r1\n.byte 1\n.pool\nnop", "d100 0100 00000001 0009")
}

func TestE4PlacesOfInstructions(t *testing.T) {
	for _, s := range []string{"bt", "bf", "bra", "bsr"} {
		wrongEach(t, api.ErrFit, s+" 5", s+" 0", s+" x0-x0", s+" x1-x1+8", s+" 4294967295")
		wrongEach(t, api.ErrNone, s+" zz", s+" zz+1", s+" r16", s+" (r1)", s+" zz+70000", s+" nop", s+" X0")
		wrongEach(t, api.ErrAlign, s+" x0+1", s+" x1-1", s+" x0+70001", s+" x1-2147483647")
	}
	for _, s := range []string{"mov.w", "mov.l"} {
		wrongEach(t, api.ErrFit, s+" 5,r1", s+" x0-x0,r1")
		wrongEach(t, api.ErrNone, s+" zz,r1", s+" zz-4,r1")
		wrongEach(t, api.ErrAlign, s+" x0+1,r1", s+" x1+3,r1")
		wrongEach(t, api.ErrRange, s+" x0,r1", s+" x0-4,r1", s+" x0+70000,r1", s+" x0-70000,r1")
	}
	wrongEach(t, api.ErrAlign, "mov.l x1+2,r1", "mov.l x0+6,r1", "mov.l x0-2,r1")
	wrongEach(t, api.ErrRange, "bra x0+5000", "bra x0-5000", "bsr x1+4102", "bsr x1-4096", "bt x0+5000", "bf x0-5000")
	wrong(t, ".equ n, 4\nn1: nop\nbra n", api.ErrFit, 3)
}

func TestE4LoadsAtTheEndsOfTheirRange(t *testing.T) {
	parts(t, joined("mov.w a,r1", gap(512), "a: .word 7"), 516, map[int]string{0: "91ff"})
	wrong(t, joined("mov.w a,r1", gap(514), "a: .word 7"), api.ErrRange, 1)
	want(t, "mov.w a,r1\nnop\na: .word 7", "9100 0009 0007")
	wrong(t, "mov.w a,r1\na: .word 7", api.ErrRange, 1)
	wrong(t, "mov.w a,r1\n.byte 1\na: .byte 2", api.ErrAlign, 1)
	parts(t, joined("mov.l a,r1", gap(1022), "a: .long 7"), 1028, map[int]string{0: "d1ff"})
	parts(t, joined("nop", "mov.l a,r1", gap(1020), "a: .long 7"), 1028, map[int]string{2: "d1ff"})
	wrong(t, joined("mov.l a,r1", gap(1026), "a: .long 7"), api.ErrRange, 1)
	wrong(t, joined("nop", "mov.l a,r1", gap(1024), "a: .long 7"), api.ErrRange, 2)
	want(t, "nop\nmov.l a,r1\na: .long 7", "0009 d100 00000007")
	want(t, "mov.l a,r1\nnop\na: .long 7", "d100 0009 00000007")
	wrong(t, "nop\nmov.l a-4,r1\na: .long 7", api.ErrRange, 2)
	want(t, "a: mov.l a+4,r1\nnop\n.long 7", "d100 0009 00000007")
	// Pools, too.
	parts(t, joined("mov.l =7,r1", gap(1022)), 1028, map[int]string{0: "d1ff", 1024: "00000007"})
	wrong(t, joined("nop", "nop", "mov.l =7,r1", gap(1026)), api.ErrRange, 3)
	parts(t, joined("mov.l =7,r1", gap(1022), ".pool", gap(1000)), 2028, map[int]string{0: "d1ff"})
	wrong(t, joined("mov.l =7,r1", gap(1018), "mov.l =8,r1", "mov.l =7,r2", "mov.l =8,r3"), api.ErrRange, 1)
}

func TestE4TheFirstFault(t *testing.T) {
	wrong(t, "bra zz\n.byte 1\nnop", api.ErrNone, 1)
	wrong(t, ".byte 1\nnop\nbra zz", api.ErrAlign, 2)
	wrong(t, "nop\n.long 1,2\nbra 5", api.ErrAlign, 2)
	wrong(t, "nop\nbra 5\n.byte 1\nbra zz\nbra a+1\na:", api.ErrFit, 2)
	wrong(t, joined("mov.l =1,r1", "bra zz", gap(1100)), api.ErrRange, 1)
	wrong(t, joined("nop", "bt a", gap(5000), "a: bra zz"), api.ErrRange, 2)
}

func TestE4Relocs(t *testing.T) {
	wantAll(t, "a: .word a,b,zz,zz+1,a-1,b+70000,zz-70000\nb: .word 5\n.long b,zz,b-2147483648,zz+2147483647,-1,zz-zz,a+2-a+a,b+2147483647",
		"0000 0000 0000 0000 0000 0000 0000 0005 00000000 00000000 00000000 00000000 ffffffff 00000000 00000000 00000000", []api.Sym{{Name: "a"}, {Name: "b", At: 14}}, []api.Reloc{
			{At: 0, Size: 2}, {At: 2, Size: 2, Add: 14}, {At: 4, Size: 2, Name: "zz"}, {At: 6, Size: 2, Name: "zz", Add: 1}, {At: 8, Size: 2, Add: -1}, {At: 10, Size: 2, Add: 70014}, {At: 12, Size: 2, Name: "zz", Add: -70000},
			{At: 16, Size: 4, Add: 14}, {At: 20, Size: 4, Name: "zz"}, {At: 24, Size: 4, Add: 14 - 1<<31}, {At: 28, Size: 4, Name: "zz", Add: 1<<31 - 1}, {At: 40, Size: 4, Add: 2}, {At: 44, Size: 4, Add: 13 - 1<<31},
		})
	// What an equ is is no place, and what stands in brackets is the same.
	wantAll(t, ".equ n, 8\n.word n,(n),(c)\nc: .align 4\n.long c-n", "0008 0008 0000 0000 00000000", []api.Sym{{Name: "c", At: 6}}, []api.Reloc{{At: 4, Size: 2, Add: 6}, {At: 8, Size: 4, Add: -2}})
}

func TestE4Syms(t *testing.T) {
	wantAll(t, "z: nop\na: bt m\nm: .byte 1\nB: .byte 2\nb:\n_:", "0009 89ff 0102", []api.Sym{{Name: "z"}, {Name: "a", At: 2}, {Name: "m", At: 4}, {Name: "B", At: 5}, {Name: "b", At: 6}, {Name: "_", At: 6}}, nil)
	wantAll(t, "a:", "", []api.Sym{{Name: "a"}}, nil)
	wantAll(t, "mov.l =a,r1\na:", "d100 0000 00000000", []api.Sym{{Name: "a", At: 2}}, []api.Reloc{{At: 4, Size: 4, Add: 2}})
	wantAll(t, "mov.l =b,r1\na:\n.pool\nb:", "d100 0000 00000000", []api.Sym{{Name: "a", At: 2}, {Name: "b", At: 8}}, []api.Reloc{{At: 4, Size: 4, Add: 8}})
}
