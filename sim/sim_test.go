package sim_test

import (
	"fmt"
	"math"
	"runtime"
	"slices"
	"testing"

	"platelayer/api"
	"platelayer/asm"
	"platelayer/link"
	"platelayer/sim"
)

// Numbers that 32 bits hold at most.
const (
	low  = -1 << 31
	high = 1<<31 - 1
)

// words is half words as bytes.
func words(l ...int) []byte {
	var out []byte
	for _, w := range l {
		out = append(out, byte(w>>8), byte(w))
	}
	return out
}

// at is a machine that stands where its image begins.
func at(base int, l ...int) api.Machine {
	return sim.New(api.Image{Base: base, Bytes: words(l...)})
}

// image is what comes of a source.
func image(t *testing.T, base int, source string) api.Image {
	t.Helper()
	o, f := asm.Unit([]byte(source))
	if f != (api.Fault{}) {
		t.Fatalf("%q has fault %v", source, f)
	}
	i, f := link.Link([]api.Object{o}, base)
	if f != (api.Fault{}) {
		t.Fatalf("%q has fault %v as an image", source, f)
	}
	return i
}

// same is whether two machines are, nil and lists without entries being the same.
func same(a, b api.Machine) bool {
	return a.R == b.R && a.T == b.T && a.PC == b.PC && a.PR == b.PR && a.Steps == b.Steps && slices.Equal(a.Told, b.Told) &&
		a.Image.Base == b.Image.Base && slices.Equal(a.Image.Bytes, b.Image.Bytes) && slices.Equal(a.Image.Syms, b.Image.Syms)
}

// becomes fails if Step does not make of a machine what change does.
func becomes(t *testing.T, what string, m api.Machine, change func(m *api.Machine)) {
	t.Helper()
	want := sim.Own(m)
	want.Steps++
	change(&want)
	if got, end, err := sim.Step(m); !same(got, want) || end || err != api.OK {
		t.Errorf("%s: Step(%.500v) is %.500v %v %d, not %.500v", what, m, got, end, err, want)
	}
}

// refuses fails if Step has another error, or something beside it.
func refuses(t *testing.T, what string, m api.Machine, want api.Errno) {
	t.Helper()
	if got, end, err := sim.Step(m); !same(got, api.Machine{}) || end || err != want {
		t.Errorf("%s: Step(%.500v) is %.500v %v %d, not error %d", what, m, got, end, err, want)
	}
}

func TestI1New(t *testing.T) {
	for _, i := range []api.Image{
		{},
		{Base: 8},
		{Base: 1 << 20, Bytes: []byte{1, 2, 3}, Syms: []api.Sym{{Name: "a", At: 1 << 20}, {Name: "b", At: 7}}},
		{Base: 3, Bytes: []byte{}, Syms: []api.Sym{}},
	} {
		want := api.Machine{PC: i.Base, PR: -1, Image: i}
		if got := sim.New(i); !same(got, want) {
			t.Errorf("New(%v) is %v", i, got)
		}
		if got := sim.Image(i); !same(api.Machine{Image: got}, api.Machine{Image: i}) {
			t.Errorf("Image(%v) is %v", i, got)
		}
	}
}

// full is a machine of which nothing is 0, with room behind its lists.
func full() api.Machine {
	m := api.Machine{T: true, PC: 6, PR: 5, Steps: 9}
	for k := range m.R {
		m.R[k] = 100 + k
	}
	m.Image = api.Image{Base: 4, Bytes: append(make([]byte, 0, 32), words(0x0009, 0xc301, 0x0009, 0xc300)...), Syms: append(make([]api.Sym, 0, 8), api.Sym{Name: "a", At: 4})}
	m.Told = append(make([]int, 0, 8), 7, -7)
	return m
}

// spoil writes to all of a machine's lists, and the room behind them.
func spoil(m api.Machine) {
	for l, k := m.Image.Bytes[:cap(m.Image.Bytes)], 0; k < len(l); k++ {
		l[k] = 0xee
	}
	for l, k := m.Image.Syms[:cap(m.Image.Syms)], 0; k < len(l); k++ {
		l[k] = api.Sym{Name: "bad", At: -5}
	}
	for l, k := m.Told[:cap(m.Told)], 0; k < len(l); k++ {
		l[k] = -55
	}
}

// room tells all of a machine's lists with the room behind them.
func room(m api.Machine) string {
	return fmt.Sprint(m.Image.Bytes[:cap(m.Image.Bytes)], m.Image.Syms[:cap(m.Image.Syms)], m.Told[:cap(m.Told)])
}

func TestI1AnswersShareNothing(t *testing.T) {
	calls := map[string]func(m api.Machine) api.Machine{
		"Own":   sim.Own,
		"Image": func(m api.Machine) api.Machine { m.Image, m.Told = sim.Image(m.Image), nil; return m },
		"New":   func(m api.Machine) api.Machine { return sim.New(m.Image) },
		"Step":  func(m api.Machine) api.Machine { x, _, _ := sim.Step(m); return x },
		"Run":   func(m api.Machine) api.Machine { x, _ := sim.Run(m, 10); return x },
	}
	for name, call := range calls {
		m := full()
		before := room(m)
		got := call(m)
		if len(got.Image.Bytes) != 8 || room(m) != before {
			t.Errorf("%s answers %v, and leaves %v", name, got, room(m))
		}
		if want := full(); name == "Own" && !same(got, want) {
			t.Errorf("Own answers %v, not %v", got, want)
		}
		spoil(got)
		if room(m) != before {
			t.Errorf("%s answers what it was handed: %v", name, room(m))
		}
		m = full()
		got = call(m)
		told := room(got)
		spoil(m)
		if room(got) != told {
			t.Errorf("%s keeps what it was handed: %v", name, room(got))
		}
	}
}

func TestI1OneAnswerTwice(t *testing.T) {
	// A machine may be gone on with in two ways: neither writes into the other.
	m := full()
	a, _, _ := sim.Step(m)
	m.R[0] = 3
	b, _, _ := sim.Step(m)
	if !slices.Equal(a.Told, []int{7, -7, 100}) || !slices.Equal(b.Told, []int{7, -7, 3}) {
		t.Errorf("they tell %v and %v", a.Told, b.Told)
	}
	m = at(0, 0x2012, 0x0009) // mov.l r1,@r0
	m.R[1] = -1
	x, _, _ := sim.Step(m)
	if !slices.Equal(x.Image.Bytes, []byte{255, 255, 255, 255}) || !slices.Equal(m.Image.Bytes, words(0x2012, 0x0009)) {
		t.Errorf("the images are %x and %x", x.Image.Bytes, m.Image.Bytes)
	}
}

func TestI1WhereAnInstructionIs(t *testing.T) {
	nop := []byte{0, 9, 0, 9, 0}
	for _, c := range []struct {
		base, pc, bytes int
		is              bool
	}{
		{0, 0, 5, true}, {0, 2, 5, true}, {0, 4, 5, false}, {0, 1, 5, false}, {0, 3, 5, false}, {0, 6, 5, false}, {0, -2, 5, false}, {0, -1, 5, false},
		{0, 2, 4, true}, {0, 2, 3, false}, {0, 0, 2, true}, {0, 0, 1, false}, {0, 0, 0, false},
		{6, 6, 5, true}, {6, 8, 5, true}, {6, 4, 5, false}, {6, 10, 5, false}, {6, 0, 5, false},
		{1 << 20, 1 << 20, 2, true}, {1 << 20, 1<<20 + 2, 2, false}, {1 << 20, 1<<20 - 2, 2, false}, {1 << 20, 0, 5, false},
		{0, high, 5, false}, {0, high - 1, 5, false}, {0, low, 5, false}, {1 << 20, low, 5, false},
	} {
		// What stands behind the image's end is not looked at.
		m := sim.New(api.Image{Base: c.base})
		m.Image.Bytes = nop[:c.bytes]
		m.PC = c.pc
		what := fmt.Sprintf("%d bytes from %d on, PC %d", c.bytes, c.base, c.pc)
		if c.is {
			becomes(t, what, m, func(m *api.Machine) { m.PC += 2 })
		} else {
			refuses(t, what, m, api.ErrNone)
		}
	}
	// Where an image begins at no multiple of two, instructions stand at such all the same.
	m := sim.New(api.Image{Base: 5, Bytes: []byte{0, 0, 9, 0}})
	refuses(t, "an instruction at 5", m, api.ErrNone)
	m.PC = 6
	becomes(t, "an instruction at 6", m, func(m *api.Machine) { m.PC = 8 })
	m.PC = 8
	refuses(t, "an instruction at 8, of which one byte is there", m, api.ErrNone)
}

func TestI1WhatIsNoInstruction(t *testing.T) {
	for _, w := range []int{0, 0xffff, 0x8a00, 0x4002, 0x0008, 0xc200} {
		refuses(t, "no instruction", at(4, w), api.ErrBad)
		refuses(t, "none behind a branch", at(4, 0xa000, w), api.ErrBad)
	}
}

func TestI1TheEnd(t *testing.T) {
	m := full()
	m.PC = 10
	got, end, err := sim.Step(m)
	want := full()
	want.PC, want.Steps = 10, 10
	if !same(got, want) || !end || err != api.OK {
		t.Errorf("trapa #0: Step is %v %v %d", got, end, err)
	}
	// It is the end again.
	again, end, err := sim.Step(got)
	want.Steps = 11
	if !same(again, want) || !end || err != api.OK {
		t.Errorf("trapa #0 again: Step is %v %v %d", again, end, err)
	}
}

func TestI2Told(t *testing.T) {
	for _, w := range []int{0xc301, 0xc37f, 0xc380, 0xc3ff} {
		m := at(0, w)
		m.R[0], m.Told = low, []int{4}
		becomes(t, "trapa", m, func(m *api.Machine) { m.PC, m.Told = 2, []int{4, low} })
	}
}

// reckoned: an instruction with r1 (N) and r2 (M), what these are, and what N and T are behind it; T is kept where kept is so.
var reckoned = []struct {
	w, n, m, want int
	kept, t       bool
}{
	{w: 0x0009, n: 5, m: 6, want: 5, kept: true},
	{w: 0xe17f, n: 5, want: 127, kept: true},
	{w: 0xe180, n: 5, want: -128, kept: true},
	{w: 0x717f, n: high, want: low + 126, kept: true},
	{w: 0x7180, n: low, want: high - 127, kept: true},
	{w: 0x71ff, n: 0, want: -1, kept: true},
	{w: 0x6123, n: 5, m: low, want: low, kept: true},
	{w: 0x312c, n: 5, m: -7, want: -2, kept: true},
	{w: 0x312c, n: high, m: high, want: -2, kept: true},
	{w: 0x312c, n: low, m: low, want: 0, kept: true},
	{w: 0x312c, n: low, m: -1, want: high, kept: true},
	{w: 0x3128, n: 5, m: 7, want: -2, kept: true},
	{w: 0x3128, n: low, m: 1, want: high, kept: true},
	{w: 0x3128, n: 0, m: low, want: low, kept: true},
	{w: 0x3128, n: high, m: -1, want: low, kept: true},
	{w: 0x2129, n: 12, m: 10, want: 8, kept: true},
	{w: 0x2129, n: -1, m: low, want: low, kept: true},
	{w: 0x212b, n: 12, m: 10, want: 14, kept: true},
	{w: 0x212b, n: 1, m: low, want: low + 1, kept: true},
	{w: 0x212a, n: 12, m: 10, want: 6, kept: true},
	{w: 0x212a, n: -1, m: low, want: high, kept: true},
	{w: 0x2128, n: 12, m: 3, want: 12, t: true},
	{w: 0x2128, n: 12, m: 4, want: 12},
	{w: 0x2128, n: low, m: -1, want: low},
	{w: 0x2128, n: 0, m: 0, want: 0, t: true},
	{w: 0x3120, n: -4, m: -4, want: -4, t: true},
	{w: 0x3120, n: -4, m: 4, want: -4},
	{w: 0x3120, n: low, m: high, want: low},
	{w: 0x3127, n: 5, m: 4, want: 5, t: true},
	{w: 0x3127, n: 4, m: 4, want: 4},
	{w: 0x3127, n: 4, m: 5, want: 4},
	{w: 0x3127, n: 0, m: -1, want: 0, t: true},
	{w: 0x3127, n: low, m: high, want: low},
	{w: 0x3127, n: high, m: low, want: high, t: true},
	{w: 0x4100, n: 3, want: 6},
	{w: 0x4100, n: 1 << 30, want: low},
	{w: 0x4100, n: -3, want: -6, t: true},
	{w: 0x4100, n: low, want: 0, t: true},
	{w: 0x4100, n: low + 5, want: 10, t: true},
	{w: 0x4101, n: 6, want: 3},
	{w: 0x4101, n: 7, want: 3, t: true},
	{w: 0x4101, n: -1, want: high, t: true},
	{w: 0x4101, n: low, want: 1 << 30},
	{w: 0x4101, n: 0, want: 0},
	{w: 0x4110, n: 1, want: 0, t: true},
	{w: 0x4110, n: 2, want: 1},
	{w: 0x4110, n: 0, want: -1},
	{w: 0x4110, n: low, want: high},
}

func TestI2Numbers(t *testing.T) {
	for _, c := range reckoned {
		for _, before := range []bool{false, true} {
			m := at(8, c.w)
			m.R[1], m.R[2], m.R[15], m.T, m.PR = c.n, c.m, 77, before, 5
			becomes(t, fmt.Sprintf("%04x", c.w), m, func(m *api.Machine) {
				m.R[1], m.PC = c.want, 10
				if !c.kept {
					m.T = c.t
				}
			})
		}
	}
}

func TestI2OneRegisterTwice(t *testing.T) {
	for _, c := range []struct{ w, want int }{
		{0x333c, 6}, {0x3338, 0}, {0x233a, 0}, {0x2339, 3}, {0x6333, 3},
	} {
		m := at(0, c.w)
		m.R[3] = 3
		becomes(t, fmt.Sprintf("%04x", c.w), m, func(m *api.Machine) { m.R[3], m.PC = c.want, 2 })
	}
	m := at(0, 0x2332, 0x0009)
	m.R[3] = 0
	becomes(t, "mov.l r3,@r3", m, func(m *api.Machine) { m.PC, m.Image.Bytes = 2, []byte{0, 0, 0, 0} })
	m = at(0, 0x6332, 0x0009)
	becomes(t, "mov.l @r3,r3", m, func(m *api.Machine) { m.PC, m.R[3] = 2, 0x63320009 })
}

func TestI1BtAndBf(t *testing.T) {
	for _, c := range []struct {
		w, pc, to int
		when      bool
	}{
		{0x8900, 0, 4, true}, {0x8b00, 0, 4, false}, {0x89fe, 2, 2, true}, {0x897f, 2, 260, true}, {0x8980, 2, -250, true},
		{0x8bff, 0, 2, false}, {0x8b80, 0, -252, false},
	} {
		for _, now := range []bool{false, true} {
			m := at(0, c.w, c.w)
			m.PC, m.T, m.PR = c.pc, now, 9
			becomes(t, fmt.Sprintf("%04x, T %v", c.w, now), m, func(m *api.Machine) {
				if m.PC += 2; now == c.when {
					m.PC = c.to
				}
			})
		}
	}
	// Nothing has to stand behind them, and what does is not done.
	m := at(6, 0x8b01, 0xe105, 0xffff)
	becomes(t, "bf", m, func(m *api.Machine) { m.PC = 12 })
	m = at(6, 0x8901)
	becomes(t, "bt that is not", m, func(m *api.Machine) { m.PC = 8 })
}

func TestI1WhatLeadsElsewhere(t *testing.T) {
	const add = 0x7101 // add #1,r1: behind each of them
	for _, c := range []struct {
		what          string
		w, r1, pr, to int
		back          bool
	}{
		{"rts", 0x000b, 3, 100, 100, false},
		{"rts to where nothing can be", 0x000b, 3, -1, -1, false},
		{"rts far", 0x000b, 3, low, low, false},
		{"bra", 0xa002, 3, 100, 16, false},
		{"bra to itself", 0xaffe, 3, 100, 8, false},
		{"bra to the one behind", 0xafff, 3, 100, 10, false},
		{"bra to below 0", 0xa800, 3, 100, 12 - 4096, false},
		{"bra far", 0xa7ff, 3, 100, 12 + 4094, false},
		{"bsr", 0xb002, 3, 100, 16, true},
		{"bsr to below 0", 0xb800, 3, 100, 12 - 4096, true},
		{"jmp", 0x412b, 44, 100, 44, false},
		{"jmp to an odd place", 0x412b, 3, 100, 3, false},
		{"jmp far", 0x412b, high, 100, high, false},
		{"jsr", 0x410b, 44, 100, 44, true},
		{"jsr to below 0", 0x410b, low, 100, low, true},
	} {
		m := at(8, c.w, add)
		m.R[1], m.PR, m.T = c.r1, c.pr, true
		becomes(t, c.what, m, func(m *api.Machine) {
			m.PC, m.R[1] = c.to, c.r1+1 // where it leads is told ahead of that
			if c.r1 == high {
				m.R[1] = low
			}
			if c.back {
				m.PR = 12
			}
		})
	}
}

func TestI1TheInstructionBehind(t *testing.T) {
	for _, w := range []int{0x000b, 0x8900, 0x8b00, 0xa000, 0xb000, 0x412b, 0x410b, 0xc300, 0xc301, 0xc3ff} {
		for _, lead := range []int{0x000b, 0xa000, 0xb000, 0x412b, 0x410b} {
			refuses(t, fmt.Sprintf("%04x behind %04x", w, lead), at(0, lead, w, 0x0009, 0x0009), api.ErrFit)
		}
	}
	for _, lead := range []int{0x000b, 0xa000, 0xb000, 0x412b, 0x410b} {
		m := at(0, lead)
		refuses(t, "nothing behind it", m, api.ErrNone)
		m.Image.Bytes = append(m.Image.Bytes, 0)
		refuses(t, "one byte behind it", m, api.ErrNone)
		refuses(t, "a load of what is not there behind it", at(0, lead, 0xd3ff), api.ErrRange)
		refuses(t, "a half word that is not there behind it", at(0, lead, 0x9301), api.ErrRange)
		m = at(0, lead, 0x2042)
		m.R[0] = 4
		refuses(t, "mov.l r4,@r0 behind it", m, api.ErrRange)
		m.R[0] = 0
		m.R[4] = 0x01020304
		if got, _, err := sim.Step(m); err != api.OK || !slices.Equal(got.Image.Bytes, []byte{1, 2, 3, 4}) {
			t.Errorf("mov.l r4,@r0 behind %04x: %v %d", lead, got, err)
		}
	}
	// A load behind a branch is counted from its own place.
	m := at(2, 0xa005, 0x9300, 0x0009, 0x7fff, 0x8001)
	becomes(t, "mov.w behind bra", m, func(m *api.Machine) { m.PC, m.R[3] = 16, 0x7fff })
	m = at(2, 0xa005, 0xd300, 0x0009, 0x7fff, 0x8001)
	becomes(t, "mov.l behind bra", m, func(m *api.Machine) { m.PC, m.R[3] = 16, 0x7fff8001 })
	// T that is told behind a branch stays.
	m = at(0, 0xa000, 0x3120)
	becomes(t, "cmp/eq behind bra", m, func(m *api.Machine) { m.PC, m.T = 4, true })
}

func TestI2LoadsFromPlaces(t *testing.T) {
	for _, c := range []struct {
		what     string
		base, pc int
		w, want  int
		bytes    []byte // from where the image begins; the instruction is written over them
		err      api.Errno
	}{
		{what: "mov.w", w: 0x9100, want: 0x1234, bytes: words(0, 0, 0x1234)},
		{what: "mov.w below 0", w: 0x9100, want: -32768, bytes: words(0, 0, 0x8000)},
		{what: "mov.w just above", w: 0x9100, want: 32767, bytes: words(0, 0, 0x7fff)},
		{what: "mov.w -1", w: 0x9101, want: -1, bytes: words(0, 0, 0, 0xffff)},
		{what: "mov.w behind the end", w: 0x9101, bytes: words(0, 0, 0), err: api.ErrRange},
		{what: "mov.w, half of it", w: 0x9100, bytes: []byte{0, 0, 0, 0, 1}, err: api.ErrRange},
		{what: "mov.w far", w: 0x91ff, bytes: make([]byte, 515), err: api.ErrRange},
		{what: "mov.w just there", w: 0x91ff, bytes: make([]byte, 516)},
		{what: "mov.w at 2 of a later image", base: 100, pc: 102, w: 0x9100, want: 5, bytes: words(0, 0, 0, 5)},
		{what: "mov.l", w: 0xd100, want: 0x12345678, bytes: words(0, 0, 0x1234, 0x5678)},
		{what: "mov.l below 0", w: 0xd100, want: low, bytes: words(0, 0, 0x8000, 0)},
		{what: "mov.l just above", w: 0xd100, want: high, bytes: words(0, 0, 0x7fff, 0xffff)},
		{what: "mov.l from 2", pc: 2, w: 0xd100, want: -2, bytes: words(0, 0, 0xffff, 0xfffe)},
		{what: "mov.l from 4", pc: 4, w: 0xd100, want: 9, bytes: words(0, 0, 0, 0, 0, 9)},
		{what: "mov.l, of a later image", base: 6, pc: 6, w: 0xd100, want: 9, bytes: words(0, 0, 9)},
		{what: "mov.l behind the end", w: 0xd101, bytes: words(0, 0, 0, 9), err: api.ErrRange},
		{what: "mov.l, three of four", w: 0xd100, bytes: make([]byte, 7), err: api.ErrRange},
		{what: "mov.l far", w: 0xd1ff, bytes: make([]byte, 1027), err: api.ErrRange},
		{what: "mov.l just there", w: 0xd1ff, bytes: make([]byte, 1028)},
	} {
		m := sim.New(api.Image{Base: c.base, Bytes: c.bytes})
		m.PC, m.R[1] = c.pc, 77
		copy(m.Image.Bytes[c.pc-c.base:], words(c.w))
		if c.err != api.OK {
			refuses(t, c.what, m, c.err)
			continue
		}
		becomes(t, c.what, m, func(m *api.Machine) { m.R[1], m.PC = c.want, c.pc+2 })
	}
}

func TestI2PutAndGet(t *testing.T) {
	for _, c := range []struct {
		base, bytes, at int
		is              bool
	}{
		{0, 8, 4, true}, {0, 8, 8, false}, {0, 7, 4, false}, {0, 8, 6, false}, {0, 8, 5, false}, {0, 8, 3, false}, {0, 8, -4, false},
		{0, 9, 5, false}, {0, 12, 8, true}, {8, 12, 12, true}, {8, 12, 16, true}, {8, 12, 4, false}, {8, 12, 20, false}, {8, 12, 0, false},
		{6, 10, 8, true}, {6, 10, 12, true}, {6, 10, 6, false}, {6, 10, 4, false}, {6, 10, 16, false},
		{1 << 20, 8, 1<<20 + 4, true}, {1 << 20, 8, 1 << 19, false}, {0, 8, high, false}, {0, 8, high - 3, false}, {0, 8, low, false}, {1 << 20, 8, low, false},
	} {
		what := fmt.Sprintf("%d of %d bytes from %d on", c.at, c.bytes, c.base)
		for _, n := range []int{0x01020384, -2, low, high, 0} {
			put := sim.New(api.Image{Base: c.base, Bytes: make([]byte, c.bytes), Syms: []api.Sym{{Name: "a", At: 3}}})
			copy(put.Image.Bytes, words(0x2122)) // mov.l r2,@r1
			put.R[1], put.R[2] = c.at, n
			get := sim.New(api.Image{Base: c.base, Bytes: make([]byte, c.bytes)})
			copy(get.Image.Bytes, words(0x6212)) // mov.l @r1,r2
			get.R[1] = c.at
			if !c.is {
				refuses(t, "put "+what, put, api.ErrRange)
				refuses(t, "get "+what, get, api.ErrRange)
				continue
			}
			bytes := []byte{byte(n >> 24), byte(n >> 16), byte(n >> 8), byte(n)}
			copy(get.Image.Bytes[c.at-c.base:], bytes)
			becomes(t, "put "+what, put, func(m *api.Machine) { m.PC += 2; copy(m.Image.Bytes[c.at-c.base:], bytes) })
			becomes(t, "get "+what, get, func(m *api.Machine) { m.PC += 2; m.R[2] = n })
		}
	}
}

func TestI2WhatIsWrittenIsDone(t *testing.T) {
	// It writes mov #7,r5 and trapa #0 behind itself.
	m := at(0, 0x2122, 0x0009, 0xffff, 0xffff)
	m.R[1], m.R[2] = 4, 0xe507c300-1<<32
	got, err := sim.Run(m, 4)
	if err != api.OK || got.R[5] != 7 || got.Steps != 4 || got.PC != 6 {
		t.Errorf("Run is %v %d", got, err)
	}
}

func TestI2Run(t *testing.T) {
	m := at(4, 0xe105, 0xc300) // mov #5,r1, then the end: two steps
	for _, most := range []int{math.MinInt, -1, api.MaxSteps + 1, math.MaxInt} {
		if got, err := sim.Run(m, most); !same(got, api.Machine{}) || err != api.ErrRange {
			t.Errorf("Run of %d steps is %v %d", most, got, err)
		}
	}
	for _, most := range []int{0, 1} {
		if got, err := sim.Run(m, most); !same(got, api.Machine{}) || err != api.ErrFuel {
			t.Errorf("Run of %d steps is %v %d", most, got, err)
		}
	}
	want := sim.Own(m)
	want.R[1], want.PC, want.Steps = 5, 6, 2
	for _, most := range []int{2, 3, api.MaxSteps} {
		if got, err := sim.Run(m, most); !same(got, want) || err != api.OK {
			t.Errorf("Run of %d steps is %v %d", most, got, err)
		}
	}
	// Steps that were taken ahead count in what is answered, not in most.
	m.Steps = 5000
	want.Steps = 5002
	if got, err := sim.Run(m, 2); !same(got, want) || err != api.OK {
		t.Errorf("Run of a machine that ran is %v %d", got, err)
	}
}

func TestI2RunsThatDoNotEnd(t *testing.T) {
	for _, c := range []struct {
		what string
		m    api.Machine
		most int
		want api.Errno
	}{
		{"a loop", at(4, 0xaffe, 0x0009), api.MaxSteps, api.ErrFuel},
		{"nothing", at(4), 1, api.ErrNone},
		{"nothing, and no step", at(4), 0, api.ErrFuel},
		{"past the end", at(4, 0x0009), 9, api.ErrNone},
		{"past the end, too late", at(4, 0x0009), 1, api.ErrFuel},
		{"no instruction", at(4, 0x0009, 0xffff), 9, api.ErrBad},
		{"two branches", at(4, 0x0009, 0xa000, 0xa000), 9, api.ErrFit},
		{"a load from nowhere", at(4, 0x0009, 0xd1ff), 9, api.ErrRange},
		{"a load from nowhere, and no step, most wrong", at(4, 0xd1ff), -1, api.ErrRange},
	} {
		if got, err := sim.Run(c.m, c.most); !same(got, api.Machine{}) || err != c.want {
			t.Errorf("%s: Run is %v %d, not error %d", c.what, got, err, c.want)
		}
	}
}

func TestI2TheGreatestRun(t *testing.T) {
	// Two steps, 997 times two, and four: MaxSteps is just enough.
	i := image(t, 8, "mov.l =997,r1\nnop\nl: dt r1\nbf l\nnop\nnop\nnop\ntrapa #0")
	got, err := sim.Run(sim.New(i), api.MaxSteps)
	if err != api.OK || got.Steps != api.MaxSteps || got.R[1] != 0 || !got.T {
		t.Errorf("Run is %v %d", got, err)
	}
	if got, err := sim.Run(sim.New(i), api.MaxSteps-1); !same(got, api.Machine{}) || err != api.ErrFuel {
		t.Errorf("Run of one step less is %v %d", got, err)
	}
}

// asked is how many bytes a call asks for.
func asked(call func()) uint64 {
	var before, behind runtime.MemStats
	runtime.ReadMemStats(&before)
	call()
	runtime.ReadMemStats(&behind)
	return behind.TotalAlloc - before.TotalAlloc
}

func TestI2LongImagesRun(t *testing.T) {
	const size = 1 << 24
	i := api.Image{Base: 1 << 20, Bytes: make([]byte, size)}
	copy(i.Bytes, words(0x2102, 0xaffd, 0x0009)) // mov.l r0,@r1, again and again
	m := sim.New(i)
	m.R[1] = 1<<20 + size - 4
	got := asked(func() {
		if _, err := sim.Run(m, api.MaxSteps); err != api.ErrFuel {
			t.Errorf("Run has error %d", err)
		}
	})
	if got > 2*size {
		t.Errorf("a run with an image of %d bytes asks for %d", size, got)
	}
}

func TestI1OddMachines(t *testing.T) {
	some := []int{math.MinInt, math.MinInt + 1, low - 1, low, -1, 0, 2, 1 << 20, high, 1 << 40, math.MaxInt - 1, math.MaxInt}
	for _, base := range some {
		for _, pc := range some {
			for _, w := range []int{0x0009, 0x000b, 0x8b00, 0xa000, 0xb000, 0x412b, 0x410b, 0x9100, 0xd100, 0x2122, 0x6122, 0x4101, 0x312c, 0xc301, 0xffff} {
				m := sim.New(api.Image{Base: base, Bytes: words(w, 0x0009, 0x0009, 0x0009)})
				m.PC, m.PR, m.Steps = pc, pc, pc
				for k := range m.R {
					m.R[k] = some[k%len(some)]
				}
				sim.Step(m)
				sim.Run(m, 20)
				m.PC = base
				sim.Run(m, 20)
			}
		}
	}
	sim.Step(api.Machine{})
	sim.Run(api.Machine{}, 3)
	sim.Own(api.Machine{})
}
