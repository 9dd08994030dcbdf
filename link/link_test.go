package link_test

import (
	"fmt"
	"math"
	"reflect"
	"runtime"
	"slices"
	"testing"

	"platelayer/api"
	"platelayer/asm"
	"platelayer/link"
)

// code is objects of so many bytes each.
func code(sizes ...int) []api.Object {
	out := make([]api.Object, len(sizes))
	for i, n := range sizes {
		out[i].Code = make([]byte, n)
	}
	return out
}

// same is whether two images are, nil and lists without entries being the same.
func same(a, b api.Image) bool {
	return a.Base == b.Base && slices.Equal(a.Bytes, b.Bytes) && slices.Equal(a.Syms, b.Syms)
}

// gives fails if Link is not that image.
func gives(t *testing.T, l []api.Object, base int, want api.Image) {
	t.Helper()
	if got, f := link.Link(l, base); !same(got, want) || f != (api.Fault{}) {
		t.Errorf("Link(%.300v, %d) is %.300v %v, not %.300v", l, base, got, f, want)
	}
}

// refuses fails if Link has another fault, or something beside it.
func refuses(t *testing.T, what string, l []api.Object, base int, err api.Errno, at int) {
	t.Helper()
	if got, f := link.Link(l, base); !same(got, api.Image{}) || f != (api.Fault{Err: err, At: at}) {
		t.Errorf("%s: Link is %.300v %v, not error %v at %d", what, got, f, err, at)
	}
}

func TestG1Bases(t *testing.T) {
	for _, c := range []struct {
		sizes []int
		base  int
		at    []int
		end   int
	}{
		{nil, 0, nil, 0},
		{nil, 12, nil, 12},
		{nil, 13, nil, 13},
		{nil, 1 << 30, nil, 1 << 30},
		{[]int{2, 1}, 8, []int{8, 12}, 13},
		{[]int{0}, 0, []int{0}, 0},
		{[]int{0, 0, 0}, 4, []int{4, 4, 4}, 4},
		{[]int{1, 2, 3, 4, 5, 6, 7, 8, 9}, 0, []int{0, 4, 8, 12, 16, 24, 32, 40, 48}, 57},
		{[]int{3, 0, 4, 0, 1}, 16, []int{16, 20, 20, 24, 24}, 25},
		{[]int{1, 0}, 0, []int{0, 4}, 4},
		{[]int{8001, 70000}, 400, []int{400, 8404}, 78404},
		{[]int{5, 1}, 1 << 30, []int{1 << 30, 1<<30 + 8}, 1<<30 + 9},
		{[]int{2, 2}, 1<<30 - 4, []int{1<<30 - 4, 1 << 30}, 1<<30 + 2},
		// Each stands at a multiple of four, the first one too.
		{[]int{2, 2}, 1, []int{4, 8}, 10},
		{[]int{0}, 2, []int{4}, 4},
		{[]int{4, 1}, 1<<30 - 1, []int{1 << 30, 1<<30 + 4}, 1<<30 + 5},
	} {
		if at, end := link.Bases(code(c.sizes...), c.base); !slices.Equal(at, c.at) || end != c.end {
			t.Errorf("Bases of %v at %d is %v %d, not %v %d", c.sizes, c.base, at, end, c.at, c.end)
		}
	}
	if at, end := link.Bases([]api.Object{}, 12); len(at) != 0 || end != 12 {
		t.Errorf("Bases of an empty list is %v %d", at, end)
	}
}

func TestG1BasesNeverPanics(t *testing.T) {
	for _, base := range []int{-1, -4, math.MinInt, math.MinInt + 1, math.MaxInt, math.MaxInt - 2, 1<<30 + 1} {
		if at, _ := link.Bases(code(3, 0, 8), base); len(at) != 3 {
			t.Errorf("Bases of three at %d is %v", base, at)
		}
	}
	// What is wrong with an object means nothing here.
	bad := api.Object{Code: make([]byte, 2), Syms: []api.Sym{{Name: "9", At: -1}}, Relocs: []api.Reloc{{At: -1, Size: 3}}}
	if at, end := link.Bases([]api.Object{bad, bad}, 0); !slices.Equal(at, []int{0, 4}) || end != 6 {
		t.Errorf("Bases of what is wrong is %v %d", at, end)
	}
}

func TestG1LinkOfBytes(t *testing.T) {
	list := func(l ...string) []api.Object {
		out := make([]api.Object, len(l))
		for i, s := range l {
			out[i].Code = []byte(s)
		}
		return out
	}
	for _, c := range []struct {
		l    []api.Object
		text string
	}{
		{list(""), ""},
		{list("", "", "", ""), ""},
		{list("abc"), "abc"},
		{list("abcd", "e"), "abcde"},
		{list("ab", "c"), "ab\x00\x00c"},
		{list("a", "bcdef", "gh", "i"), "a\x00\x00\x00bcdef\x00\x00\x00gh\x00\x00i"},
		{list("", "a", "", "b"), "a\x00\x00\x00b"},
		// One without bytes has a place, and noughts lead to it.
		{list("a", ""), "a\x00\x00\x00"},
	} {
		for _, base := range []int{0, 4, 400, 65532, 1<<20 - 4, 1 << 20} {
			gives(t, c.l, base, api.Image{Base: base, Bytes: []byte(c.text)})
		}
	}
}

func TestG1LinkOfSyms(t *testing.T) {
	l := []api.Object{
		{Code: make([]byte, 5), Syms: []api.Sym{{Name: "z", At: 5}, {Name: "a", At: 0}}},
		{Syms: []api.Sym{{Name: "none"}}},
		{Code: make([]byte, 2), Syms: []api.Sym{{Name: "b", At: 2}, {Name: "_", At: 1}, {Name: "A", At: 1}}},
	}
	for _, base := range []int{0, 8, 1 << 20} {
		gives(t, l, base, api.Image{Base: base, Bytes: make([]byte, 10), Syms: []api.Sym{
			{Name: "z", At: base + 5}, {Name: "a", At: base}, {Name: "none", At: base + 8},
			{Name: "b", At: base + 10}, {Name: "_", At: base + 9}, {Name: "A", At: base + 9},
		}})
	}
}

// relocs is an object of so many bytes, all of them 255, with these.
func relocs(n int, l ...api.Reloc) api.Object {
	return api.Object{Code: slices.Repeat([]byte{255}, n), Relocs: l}
}

func TestG1LinkOfRelocs(t *testing.T) {
	l := []api.Object{
		{Code: []byte{1, 2, 3, 4, 5, 6}, Syms: []api.Sym{{Name: "a", At: 2}}, Relocs: []api.Reloc{
			{At: 0, Size: 2, Name: "b", Add: 1}, // one behind it
			{At: 4, Size: 2, Name: "a"},
		}},
		{Code: []byte{7, 7, 7, 7, 8, 8, 9, 9, 6, 6, 6, 6}, Syms: []api.Sym{{Name: "b", At: 12}}, Relocs: []api.Reloc{
			{At: 0, Size: 4, Name: "a", Add: -3}, // one ahead of it
			{At: 4, Size: 2, Add: 3},             // its own base
			{At: 8, Size: 4, Name: "b", Add: 1 << 16},
		}},
	}
	syms := []api.Sym{{Name: "a", At: 2}, {Name: "b", At: 20}}
	gives(t, l, 0, api.Image{Bytes: []byte{0, 21, 3, 4, 0, 2, 0, 0, 0xff, 0xff, 0xff, 0xff, 0, 11, 9, 9, 0, 1, 0, 20}, Syms: syms})
	syms = []api.Sym{{Name: "a", At: 0x1236}, {Name: "b", At: 0x1248}}
	gives(t, l, 0x1234, api.Image{Base: 0x1234, Bytes: []byte{
		0x12, 0x49, 3, 4, 0x12, 0x36, 0, 0, 0, 0, 0x12, 0x33, 0x12, 0x3f, 9, 9, 0, 1, 0x12, 0x48,
	}, Syms: syms})
}

func TestG1LinkOfGreatNumbers(t *testing.T) {
	for _, c := range []struct {
		base, add int
		want      []byte
	}{
		{0, 1<<31 - 1, []byte{0x7f, 0xff, 0xff, 0xff}},
		{0, -1 << 31, []byte{0x80, 0, 0, 0}},
		{4, 1<<31 - 1, []byte{0x80, 0, 0, 3}},
		{1 << 20, 1<<31 - 1, []byte{0x80, 0x0f, 0xff, 0xff}},
		{1 << 20, -1 << 31, []byte{0x80, 0x10, 0, 0}},
		{1 << 20, -1 << 20, []byte{0, 0, 0, 0}},
		{1 << 20, -1<<20 - 1, []byte{0xff, 0xff, 0xff, 0xff}},
	} {
		gives(t, []api.Object{relocs(4, api.Reloc{Size: 4, Add: c.add})}, c.base, api.Image{Base: c.base, Bytes: c.want})
	}
}

func TestG1LinkOfHalfWords(t *testing.T) {
	for _, c := range []struct {
		base, add int
		want      []byte
	}{
		{0, 65535, []byte{0xff, 0xff}},
		{0, 65536, nil},
		{0, -32768, []byte{0x80, 0}},
		{0, -32769, nil},
		{0, 32767, []byte{0x7f, 0xff}},
		{0, 0, []byte{0, 0}},
		{0, -1, []byte{0xff, 0xff}},
		{65532, 3, []byte{0xff, 0xff}},
		{65532, 4, nil},
		{65536, 0, nil},
		{65536, -1, []byte{0xff, 0xff}},
		{65536, -65536 - 32768, []byte{0x80, 0}},
		{65536, -65536 - 32769, nil},
		{1 << 20, 0, nil},
		{1 << 20, -1 << 20, []byte{0, 0}},
		// Its lowest bits would fit.
		{0, 1 << 30, nil},
		{4, 1<<31 - 1, nil},
		{0, -1 << 31, nil},
		{8, -1 << 31, nil},
	} {
		for _, name := range []string{"", "a"} {
			o := relocs(2, api.Reloc{Size: 2, Name: name, Add: c.add})
			o.Syms = []api.Sym{{Name: "a"}}
			if c.want == nil {
				refuses(t, fmt.Sprint(c), []api.Object{o}, c.base, api.ErrRange, 0)
				continue
			}
			gives(t, []api.Object{o}, c.base, api.Image{Base: c.base, Bytes: c.want, Syms: []api.Sym{{Name: "a", At: c.base}}})
		}
	}
}

func TestG1LinkOfOtherBases(t *testing.T) {
	bad := api.Object{Syms: []api.Sym{{}}}
	for _, base := range []int{-1, -2, -4, -8, 1, 2, 3, 5, 1<<20 - 1, 1<<20 + 1, 1<<20 + 4, 1 << 30, 1 << 32, math.MaxInt, math.MaxInt - 3, math.MinInt} {
		for _, l := range [][]api.Object{nil, code(2), code(1, 1, 1, 1, 1), {bad}} {
			refuses(t, fmt.Sprint("base ", base), l, base, api.ErrRange, 0)
		}
	}
}

func TestG1LinkOfTooFewAndTooMany(t *testing.T) {
	bad := api.Object{Syms: []api.Sym{{}}}
	for _, base := range []int{0, 4, 1 << 20} {
		refuses(t, "none", nil, base, api.ErrMany, 0)
		refuses(t, "an empty list", []api.Object{}, base, api.ErrMany, 0)
		refuses(t, "five", code(1, 1, 1, 1, 1), base, api.ErrMany, 0)
		refuses(t, "five wrong ones", []api.Object{bad, bad, bad, bad, bad}, base, api.ErrMany, 0)
		refuses(t, "many", code(make([]int, 1000)...), base, api.ErrMany, 0)
	}
	gives(t, code(1), 0, api.Image{Bytes: make([]byte, 1)})
	gives(t, code(1, 1, 1, 1), 0, api.Image{Bytes: make([]byte, 13)})
	gives(t, code(8000, 8000, 8000, 8000), 0, api.Image{Bytes: make([]byte, 32000)})
}

func TestG1LinkOfWhatIsWrong(t *testing.T) {
	for _, c := range []struct {
		o   api.Object
		err api.Errno
	}{
		{api.Object{Code: make([]byte, 8001)}, api.ErrMuch},
		{api.Object{Syms: make([]api.Sym, 256)}, api.ErrMuch},
		{api.Object{Relocs: make([]api.Reloc, 16001)}, api.ErrMuch},
		{api.Object{Syms: []api.Sym{{Name: ""}}}, api.ErrName},
		{api.Object{Syms: []api.Sym{{Name: "9"}}}, api.ErrName},
		{api.Object{Syms: []api.Sym{{Name: "x"}, {Name: "x"}}}, api.ErrName},
		{api.Object{Syms: []api.Sym{{Name: "x", At: 1}}}, api.ErrRange},
		{api.Object{Syms: []api.Sym{{Name: "x", At: math.MinInt}}}, api.ErrRange},
		{relocs(4, api.Reloc{Size: 3}), api.ErrKind},
		{relocs(4, api.Reloc{At: 4, Size: 2}), api.ErrRange},
		{relocs(4, api.Reloc{At: -2, Size: 2}), api.ErrRange},
		{relocs(4, api.Reloc{At: 1, Size: 2}), api.ErrAlign},
		{relocs(4, api.Reloc{Size: 2, Name: "."}), api.ErrName},
		{relocs(4, api.Reloc{Size: 2, Add: 1 << 31}), api.ErrRange},
		{relocs(4, api.Reloc{At: math.MaxInt, Size: 4}), api.ErrRange},
	} {
		fine := api.Object{Code: []byte{1}}
		none := relocs(2, api.Reloc{Size: 2, Name: "nowhere"})
		twice := api.Object{Syms: []api.Sym{{Name: "y"}}}
		for at := range 4 {
			l := []api.Object{fine, fine, fine, fine}
			l[at] = c.o
			refuses(t, fmt.Sprint(c.err), l, 8, c.err, at)
		}
		// The first one counts, and all that is wrong is told ahead of names that are there twice, or nowhere.
		refuses(t, "two wrong ones", []api.Object{fine, c.o, {Code: make([]byte, 8001)}}, 8, c.err, 1)
		refuses(t, "names twice ahead of it", []api.Object{twice, twice, c.o}, 8, c.err, 2)
		refuses(t, "a name nowhere ahead of it", []api.Object{none, c.o}, 8, c.err, 1)
	}
}

func TestG1LinkOfNamesThatAreThere(t *testing.T) {
	a, b := api.Object{Syms: []api.Sym{{Name: "a"}}}, api.Object{Syms: []api.Sym{{Name: "b"}, {Name: "c"}, {Name: "a"}}}
	none, far := relocs(2, api.Reloc{Size: 2, Name: "nowhere"}), relocs(2, api.Reloc{Size: 2, Add: 1 << 20})
	refuses(t, "behind it", []api.Object{a, a}, 0, api.ErrName, 1)
	refuses(t, "the last of three names", []api.Object{a, b}, 0, api.ErrName, 1)
	refuses(t, "the other way round", []api.Object{b, a}, 0, api.ErrName, 1)
	refuses(t, "far behind", []api.Object{a, {}, {}, b}, 0, api.ErrName, 3)
	refuses(t, "two of them", []api.Object{a, {}, a, a}, 0, api.ErrName, 2)
	refuses(t, "ahead of relocs", []api.Object{none, far, a, a}, 0, api.ErrName, 3)
	// Names are held against each other byte by byte.
	gives(t, []api.Object{a, {Syms: []api.Sym{{Name: "A"}, {Name: "aa"}, {Name: "a_"}}}}, 0, api.Image{Syms: []api.Sym{{Name: "a"}, {Name: "A"}, {Name: "aa"}, {Name: "a_"}}})
}

func TestG1LinkOfNamesThatAreNowhere(t *testing.T) {
	a := api.Object{Syms: []api.Sym{{Name: "a"}}}
	none, far := relocs(2, api.Reloc{Size: 2, Name: "nowhere"}), relocs(2, api.Reloc{Size: 2, Add: 1 << 20})
	refuses(t, "one", []api.Object{none}, 0, api.ErrNone, 0)
	refuses(t, "behind others", []api.Object{a, {}, none}, 0, api.ErrNone, 2)
	refuses(t, "Size 4", []api.Object{a, relocs(4, api.Reloc{Size: 4, Name: "nowhere"})}, 0, api.ErrNone, 1)
	refuses(t, "other letters", []api.Object{a, relocs(4, api.Reloc{Size: 4, Name: "A"})}, 0, api.ErrNone, 1)
	refuses(t, "a longer name", []api.Object{a, relocs(4, api.Reloc{Size: 4, Name: "aa"})}, 0, api.ErrNone, 1)
	refuses(t, "no name, and no room either", []api.Object{a, relocs(2, api.Reloc{Size: 2, Name: "nowhere", Add: 1 << 20})}, 0, api.ErrNone, 1)
	refuses(t, "far first", []api.Object{a, far, none}, 0, api.ErrRange, 1)
	refuses(t, "nowhere first", []api.Object{a, none, far}, 0, api.ErrNone, 1)
	refuses(t, "reloc by reloc", []api.Object{a, relocs(4, far.Relocs[0], api.Reloc{At: 2, Size: 2, Name: "nowhere"})}, 0, api.ErrRange, 1)
	refuses(t, "reloc by reloc", []api.Object{a, relocs(4, none.Relocs[0], api.Reloc{At: 2, Size: 2, Add: 1 << 20})}, 0, api.ErrNone, 1)
	refuses(t, "behind one that fits", []api.Object{a, relocs(4, api.Reloc{Size: 2, Name: "a"}, api.Reloc{At: 2, Size: 2, Name: "b"})}, 0, api.ErrNone, 1)
}

// roomy is objects whose lists are pieces of longer ones, and all of these.
func roomy() (in, all []api.Object) {
	all = []api.Object{
		{
			Code:   []byte{1, 2, 3, 4, 5, 77, 78, 79},
			Syms:   []api.Sym{{Name: "a", At: 1}, {Name: "b", At: 5}, {Name: "c", At: 1}},
			Relocs: []api.Reloc{{Size: 4, Name: "d", Add: 1}, {At: 4, Size: 2, Name: "c"}},
		},
		{
			Code:   []byte{6, 7, 88, 89},
			Syms:   []api.Sym{{Name: "d", At: 2}, {Name: "a", At: 5}},
			Relocs: []api.Reloc{{Size: 2, Add: 2}, {At: 2, Size: 2}},
		},
		{Code: []byte{1}, Syms: []api.Sym{{Name: "a"}}},
	}
	in = slices.Clone(all)
	in[0].Code, in[0].Syms, in[0].Relocs = all[0].Code[:5], all[0].Syms[:2], all[0].Relocs[:1]
	in[1].Code, in[1].Syms, in[1].Relocs = all[1].Code[:2], all[1].Syms[:1], all[1].Relocs[:1]
	return in[:2], all
}

func TestG1LinkOnlyReads(t *testing.T) {
	in, all := roomy()
	_, before := roomy()
	want := api.Image{Base: 256, Bytes: []byte{0, 0, 1, 11, 5, 0, 0, 0, 1, 10}, Syms: []api.Sym{{Name: "a", At: 257}, {Name: "b", At: 261}, {Name: "d", At: 266}}}
	gives(t, in, 256, want)
	if !reflect.DeepEqual(all, before) {
		t.Errorf("what was handed in is %v now, not %v", all, before)
	}
	got, _ := link.Link(in, 256)
	at, _ := link.Bases(in, 256)
	for i := range all {
		clear(all[i].Code)
		clear(all[i].Syms)
		clear(all[i].Relocs)
	}
	clear(all)
	clear(in)
	if !same(got, want) || !slices.Equal(at, []int{256, 264}) {
		t.Errorf("the image is %v, and the bases %v, behind a change of what was handed in", got, at)
	}
}

func TestG1LinkAnswersNewMemory(t *testing.T) {
	in, all := roomy()
	_, before := roomy()
	got, _ := link.Link(in, 256)
	again, _ := link.Link(in, 256)
	at, _ := link.Bases(in, 256)
	clear(at[:cap(at)])
	clear(got.Bytes[:cap(got.Bytes)])
	clear(got.Syms[:cap(got.Syms)])
	if !reflect.DeepEqual(all, before) {
		t.Errorf("what was handed in is %v behind a change of the image", all)
	}
	gives(t, in, 256, again)
}

func TestG1LinkOfUnits(t *testing.T) {
	unit := func(s string) api.Object {
		o, f := asm.Unit([]byte(s))
		if f != (api.Fault{}) {
			t.Fatalf("%q has fault %v", s, f)
		}
		return o
	}
	l := []api.Object{unit("mov.l =f,r1\njsr @r1\nnop\ntrapa #0"), unit("f: mov.l =g+2,r2\nrts\nnop\ng:")}
	gives(t, l, 0x100, api.Image{Base: 0x100, Bytes: []byte{
		0xd1, 0x01, 0x41, 0x0b, 0x00, 0x09, 0xc3, 0x00, 0x00, 0x00, 0x01, 0x0c,
		0xd2, 0x01, 0x00, 0x0b, 0x00, 0x09, 0x00, 0x00, 0x00, 0x00, 0x01, 0x14,
	}, Syms: []api.Sym{{Name: "f", At: 0x10c}, {Name: "g", At: 0x112}}})
	refuses(t, "alone", l[:1], 0x100, api.ErrNone, 0)
	refuses(t, "twice", []api.Object{l[1], l[0], l[1]}, 0x100, api.ErrName, 2)
}

func TestG1LinkTakesLittleRoom(t *testing.T) {
	full := api.Object{Code: make([]byte, api.MaxCode)}
	for at := 0; at < api.MaxCode; at += 2 {
		full.Relocs = append(full.Relocs, api.Reloc{At: at, Size: 2, Add: at})
	}
	var before, behind runtime.MemStats
	runtime.ReadMemStats(&before)
	got, f := link.Link([]api.Object{full, full, full, full}, 0)
	runtime.ReadMemStats(&behind)
	if f != (api.Fault{}) || len(got.Bytes) != 4*api.MaxCode {
		t.Fatalf("Link has fault %v, and %d bytes", f, len(got.Bytes))
	}
	for at := 0; at < len(got.Bytes); at += 2 {
		if n := int(got.Bytes[at])<<8 | int(got.Bytes[at+1]); n != at {
			t.Fatalf("at %d stands %d", at, n)
		}
	}
	if n := behind.TotalAlloc - before.TotalAlloc; n > 8<<20 {
		t.Errorf("Link asks for %d bytes", n)
	}
}

func Example() {
	l := []api.Object{
		{Code: []byte{0, 9}, Syms: []api.Sym{{Name: "a"}}},
		{Code: make([]byte, 4), Relocs: []api.Reloc{{Size: 4, Name: "a", Add: 1}}},
	}
	fmt.Println(link.Bases(l, 8))
	fmt.Println(link.Link(l, 8))
	fmt.Println(link.Link(l[1:], 8))
	// Output:
	// [8 12] 16
	// {8 [0 9 0 0 0 0 0 9] [{a 8}]} {0 0}
	// {0 [] []} {6 0}
}
