package asm_test

import (
	"strconv"
	"strings"
	"testing"

	"platelayer/api"
)

func TestE2Numbers(t *testing.T) {
	want(t, ".byte 0,1,255,-1,-128,127,128", "00 01 ff ff 80 7f 80")
	want(t, ".word 0,1,65535,-1,-32768,32767,32768", "0000 0001 ffff ffff 8000 7fff 8000")
	want(t, ".long 0,1,4294967295,-1,-2147483648,2147483647,2147483648,0x12345678", "00000000 00000001 ffffffff ffffffff 80000000 7fffffff 80000000 12345678")
	want(t, ".equ n, 200\n.byte n,n-n,a-a+5", "c8 00 05")
}

func TestE2NumbersThatAreWrong(t *testing.T) {
	wrongEach(t, api.ErrForm, ".byte", ".word", ".long", ".byte #1", ".word r1", ".long @r1", ".long =1", ".byte 1,r2", ".word 1,2,#3", ".byte #256", ".byte #a", "a: .long")
	wrongEach(t, api.ErrFit, ".byte a", ".byte x0", ".byte 1,x1+300", ".byte 1,2,r16")
	wrongEach(t, api.ErrRange, ".byte 256", ".byte -129", ".byte 1,2,256", ".byte 4294967295-4294967295+256", ".word 65536", ".word -32769", ".word 1,65536", ".word 2147483648", ".byte 2147483648")
	wrongEach(t, api.ErrKind, "byte 1", ".Byte 1", ".bytes 1", ".half 1", ".", ".equ1")
}

func TestE2Align(t *testing.T) {
	for n, s := range map[int]string{1: "01 02", 2: "0100 02", 4: "01000000 02", 8: "0100000000000000 02", 16: "01000000000000000000000000000000 02"} {
		want(t, ".byte 1\n.align "+strconv.Itoa(n)+"\n.align "+strconv.Itoa(n)+"\n.byte 2", s)
	}
	want(t, ".equ n, 2\n.align 16\n.byte 1\n.align n*2\n.align 0x2\n.align a-a+1", "01000000")
	wrongEach(t, api.ErrForm, ".align", ".align x0", ".align a", ".align 4,4", ".align #4", ".align r4", ".align @r4", ".align =4", ".align 4,x0", ".align x0+4")
	wrongEach(t, api.ErrRange, ".align 0", ".align 3", ".align -1", ".align 5", ".align 6", ".align 12", ".align 15", ".align 17", ".align 32", ".align -4", ".align 2147483648", ".align 4294967295")
}

func TestE2Pools(t *testing.T) {
	want(t, ".pool\nnop\n.pool", "0009")
	want(t, "mov.l =1,r1", "d100 0000 00000001")
	want(t, "mov.l =5,r0\nmov.l =-1,r15\nmov.l =5,r2\nmov.l =4294967295,r3\nmov.l =2+3,r4\nnop", "d002 df03 d201 d302 d400 0009 00000005 ffffffff")
	want(t, "nop\nmov.l =1,r1\n.pool\n.pool\nmov.l =1,r2\nmov.l =2,r1\na: .pool\nmov.l =1,r3", "0009 d100 00000001 d200 d101 00000001 00000002 d300 0000 00000001")
	want(t, "mov.l =1,r1\n.byte 9\n.pool\n.byte 8", "d100 09 00 00000001 08")
	want(t, "mov.l =1,r1\n.word 7\n.long 6\n.pool\n.word 8", "d101 0007 00000006 00000001 0008")
}

func TestE2PoolsOfPlaces(t *testing.T) {
	wantAll(t, "a: mov.l =a,r1\nb: mov.l =b-2,r2\nmov.l =zz,r3\nmov.l =a+4,r4\nmov.l =zz-1,r5\nmov.l =zz,r6\nmov.l =a+0,r7\n.pool\nmov.l =zz,r1",
		"d103 d204 d304 d405 d505 d603 d700 0000 00000000 00000000 00000000 00000000 00000000 d100 0000 00000000",
		[]api.Sym{{Name: "a"}, {Name: "b", At: 2}},
		[]api.Reloc{{At: 16, Size: 4}, {At: 20, Size: 4}, {At: 24, Size: 4, Name: "zz"}, {At: 28, Size: 4, Add: 4}, {At: 32, Size: 4, Name: "zz", Add: -1}, {At: 40, Size: 4, Name: "zz"}})
}

func TestE2PoolsThatAreWrong(t *testing.T) {
	wrongEach(t, api.ErrForm, ".pool x0", ".pool 1", ".pool r1", ".pool #1", ".pool 1,2")
	wrongEach(t, api.ErrKind, "mov.l =1", "mov.l r1,=1", "mov.l =1,=2", "mov.l =1,@r1", "mov.l =1,a", "mov.l =1,#2", "mov.l =1,r1,r2", "mov.w =1,r1", "mov =1,r1", "add =1,r1", "bra =1", "trapa =1", "mov.L =1,r1")
}

func TestE2EachShape(t *testing.T) {
	want(t, "nop\nrts", "0009 000b")
	want(t, "mov #1,r2\nmov #-128,r0\nmov #127,r15\nadd #1,r2\nadd #-1,r15", "e201 e080 ef7f 7201 7fff")
	want(t, "mov r1,r2\nadd r1,r2\nsub r1,r2\nand r1,r2\nor r1,r2\nxor r1,r2\ntst r1,r2\ncmp/eq r1,r2\ncmp/gt r1,r2", "6213 321c 3218 2219 221b 221a 2218 3210 3217")
	want(t, "mov r15,r0\nmov r0,r15\nadd r10,r11", "60f3 6f03 3bac")
	want(t, "shll r1\nshlr r2\ndt r15\nshll r0", "4100 4201 4f10 4000")
	want(t, "a: bt a\nbf a\nbra a\nbsr a\nbt b\nbf b\nbra b\nbsr b\nb: nop", "89fe 8bfd affc bffb 8902 8b01 a000 bfff 0009")
	want(t, "jmp @r1\njsr @r15\njmp @r0", "412b 4f0b 402b")
	want(t, "mov.w a,r1\nmov.w a+2,r15\nmov.l b,r2\nmov.l b+4,r14\na: .word 1,2\n.align 4\nb: .long 3,4", "9102 9f02 d201 de02 0001 0002 00000003 00000004")
	want(t, "mov.l r1,@r2\nmov.l r15,@r0\nmov.l @r1,r2\nmov.l @r15,r0", "2212 20f2 6212 60f2")
	want(t, "trapa #0\ntrapa #255\ntrapa #7", "c300 c3ff c307")
}

// written is how operands of a shape are written.
var written = map[int]string{
	api.ShapeNone: "", api.ShapeImm: "#1,r2", api.ShapeTwo: "r1,r2", api.ShapeOne: "r1", api.ShapeNear: "x0", api.ShapeFar: "x0", api.ShapeAt: "@r1",
	api.ShapeWord: "x1,r1", api.ShapeLong: "x1,r1", api.ShapeTo: "r1,@r2", api.ShapeFrom: "@r1,r2", api.ShapeNumber: "#1",
}

func TestE2NamesHaveTheirShapesAlone(t *testing.T) {
	shapes := map[string][]int{
		"nop": {api.ShapeNone}, "rts": {api.ShapeNone}, "mov": {api.ShapeImm, api.ShapeTwo}, "add": {api.ShapeImm, api.ShapeTwo}, "sub": {api.ShapeTwo}, "and": {api.ShapeTwo}, "or": {api.ShapeTwo},
		"xor": {api.ShapeTwo}, "tst": {api.ShapeTwo}, "cmp/eq": {api.ShapeTwo}, "cmp/gt": {api.ShapeTwo}, "shll": {api.ShapeOne}, "shlr": {api.ShapeOne}, "dt": {api.ShapeOne},
		"bt": {api.ShapeNear}, "bf": {api.ShapeNear}, "bra": {api.ShapeFar}, "bsr": {api.ShapeFar}, "jmp": {api.ShapeAt}, "jsr": {api.ShapeAt}, "mov.w": {api.ShapeWord},
		"mov.l": {api.ShapeLong, api.ShapeTo, api.ShapeFrom}, "trapa": {api.ShapeNumber}, "zap": nil, "Nop": nil, "mov.b": nil, "cmp": nil, "r1": nil, "x0": nil, ".data": nil,
	}
	for name, has := range shapes {
		forms := map[string]bool{}
		for _, shape := range has {
			forms[written[shape]] = true
		}
		for _, s := range written {
			source := "x0: nop\n" + name + " " + s + "\n.word 0\n.align 4\nx1: nop"
			if o, f := build(t, source); forms[s] && (f.Err != api.OK || len(o.Code) < 8) {
				t.Errorf("%q is %v %v", source, o, f)
			} else if !forms[s] && f != (api.Fault{Err: api.ErrKind, At: 2}) {
				t.Errorf("%q is %v %v", source, o, f)
			}
		}
		wrongEach(t, api.ErrKind, name+" #1,#2", name+" @r1,@r2", name+" r1,#1", name+" r1,x0", name+" x0,x1", name+" @r1,x0", name+" x0,@r1", name+" #1,@r1", name+" #1,x0", name+" #1,r1,r2", name+" r1,r2,r3", name+" =1", name+" r1,=1", name+" 1,2,3,4,5,6")
	}
}

func TestE2InstructionsThatAreWrong(t *testing.T) {
	wrongEach(t, api.ErrKind, "mov r1,r16", "mov r16,r1", "shll r16", "shll R1", "shll r01", "shll (r1)", "mov #1,r", "mov #1,(r1)", "nop nop", "mov", "zap", "bt", "bt x0,r1", "bt r1", "trapa", "trapa 1", "trapa r1", "mov #128", "mov #x0", "bra #1")
	wrongEach(t, api.ErrFit, "mov #x0,r1", "add #a,r1", "trapa #x1", "mov #x0+200,r1", "trapa #r1", "mov #1+a-1,r1")
	wrongEach(t, api.ErrRange, "mov #128,r1", "mov #-129,r1", "add #128,r1", "add #255,r1", "mov #4294967168-1,r1", "mov #2147483648,r1", "trapa #256", "trapa #-1", "trapa #4294967295")
	want(t, "mov #4294967168,r1\nadd #4294967295,r2\nmov #x-x+127,r3", "e180 72ff e37f")
}

func TestE2ManyOperands(t *testing.T) {
	many := strings.Repeat(" r1,", 200000) + " r1"
	wrongEach(t, api.ErrKind, "mov"+many, "zap"+many)
	wrongEach(t, api.ErrForm, ".word"+many, ".pool"+many, ".align"+many)
}
