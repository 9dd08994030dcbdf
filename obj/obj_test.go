package obj_test

import (
	"fmt"
	"math"
	"reflect"
	"slices"
	"strings"
	"testing"

	"platelayer/api"
	"platelayer/obj"
)

// some is an object that has all there may be.
func some() api.Object {
	return api.Object{
		Code:   []byte{1, 2, 3, 4, 5, 6, 7, 8, 9, 10, 11, 12},
		Syms:   []api.Sym{{Name: "a", At: 2}, {Name: "_Long_name", At: 12}, {Name: "b", At: 0}},
		Relocs: []api.Reloc{{At: 0, Size: 2, Add: -7}, {At: 4, Size: 4, Name: "zz", Add: 9}, {At: 8, Size: 2, Name: "a"}, {At: 10, Size: 2}},
	}
}

// same is whether two objects are, nil and lists without entries being the same.
func same(a, b api.Object) bool {
	return slices.Equal(a.Code, b.Code) && slices.Equal(a.Syms, b.Syms) && slices.Equal(a.Relocs, b.Relocs)
}

// roomy is the same object, whose lists are pieces of longer ones: all must be as it was behind a call.
func roomy(o api.Object) (in api.Object, all func() api.Object) {
	code := append(slices.Clone(o.Code), 77, 78)
	syms := append(slices.Clone(o.Syms), api.Sym{Name: "more", At: 1}, api.Sym{Name: "a", At: -1})
	relocs := append(slices.Clone(o.Relocs), api.Reloc{At: 4, Size: 3, Name: "more", Add: 1}, api.Reloc{At: -1})
	in = api.Object{Code: code[:len(o.Code)], Syms: syms[:len(o.Syms)], Relocs: relocs[:len(o.Relocs)]}
	return in, func() api.Object { return api.Object{Code: code, Syms: syms, Relocs: relocs} }
}

// spoil changes all that an object's lists hold, their spare room too.
func spoil(o api.Object) {
	for i := range o.Code[:cap(o.Code)] {
		o.Code[:cap(o.Code)][i] ^= 0xff
	}
	for i := range o.Syms[:cap(o.Syms)] {
		o.Syms[:cap(o.Syms)][i] = api.Sym{Name: "spoilt", At: -1}
	}
	for i := range o.Relocs[:cap(o.Relocs)] {
		o.Relocs[:cap(o.Relocs)][i] = api.Reloc{At: -1, Size: -1, Name: "spoilt", Add: -1}
	}
}

func TestF1OwnIsACopy(t *testing.T) {
	for _, o := range []api.Object{
		{},
		{Code: []byte{}, Syms: []api.Sym{}, Relocs: []api.Reloc{}},
		{Code: []byte{1}},
		{Syms: []api.Sym{{Name: "a", At: 1}}},
		{Relocs: []api.Reloc{{At: 1, Size: 2, Name: "b", Add: 3}}},
		some(),
		// What is wrong is copied likewise.
		{Code: make([]byte, 8001), Syms: make([]api.Sym, 256), Relocs: make([]api.Reloc, 16001)},
		{Syms: []api.Sym{{Name: "9", At: -1}, {Name: "9", At: 99}}, Relocs: []api.Reloc{{At: -1, Size: 3, Name: ".", Add: math.MaxInt}}},
	} {
		if got := obj.Own(o); !same(got, o) {
			t.Errorf("Own(%v) is %v", o, got)
		}
	}
}

func TestF1OwnSharesNothing(t *testing.T) {
	in, all := roomy(some())
	before, _ := roomy(all())
	copied := obj.Own(in)
	spoil(copied)
	if !same(all(), before) {
		t.Errorf("what was handed in is %v behind a change of the copy", all())
	}
	copied = obj.Own(in)
	spoil(in)
	if !same(copied, some()) {
		t.Errorf("the copy is %v behind a change of what was handed in", copied)
	}
}

// changed is some with a change.
func changed(change func(o *api.Object)) api.Object {
	o := some()
	change(&o)
	return o
}

// sym is an api.Sym that is written without its fields' names.
type sym struct {
	Name string
	At   int
}

// withSyms is twelve bytes and these.
func withSyms(l ...sym) api.Object {
	out := api.Object{Code: make([]byte, 12)}
	for _, s := range l {
		out.Syms = append(out.Syms, api.Sym(s))
	}
	return out
}

// withRelocs is twelve bytes and these.
func withRelocs(l ...api.Reloc) api.Object {
	return api.Object{Code: make([]byte, 12), Relocs: l}
}

// manySyms is so many of other names.
func manySyms(n int) []api.Sym {
	out := make([]api.Sym, n)
	for i := range out {
		out[i].Name = fmt.Sprint("n", i)
	}
	return out
}

// hold fails if Wrong is not err, or Bytes is not likewise.
func hold(t *testing.T, what string, o api.Object, err api.Errno) {
	t.Helper()
	if got := obj.Wrong(o); got != err {
		t.Errorf("%s: Wrong is %v, not %v", what, got, err)
	}
	b, got := obj.Bytes(o)
	if got != err || (len(b) == 0) != (err != api.OK) {
		t.Errorf("%s: Bytes is %.200v %v, not of error %v", what, b, got, err)
	}
}

func TestF1WrongOfTooMuch(t *testing.T) {
	bad := api.Object{Syms: []api.Sym{{}}, Relocs: []api.Reloc{{}}}
	for _, c := range []struct {
		what string
		o    api.Object
		err  api.Errno
	}{
		{"nothing", api.Object{}, api.OK},
		{"empty lists", api.Object{Code: []byte{}, Syms: []api.Sym{}, Relocs: []api.Reloc{}}, api.OK},
		{"all", some(), api.OK},
		{"8000 bytes", api.Object{Code: make([]byte, 8000)}, api.OK},
		{"8001 bytes", api.Object{Code: make([]byte, 8001)}, api.ErrMuch},
		{"8001 bytes, and others wrong", api.Object{Code: make([]byte, 8001), Syms: bad.Syms, Relocs: bad.Relocs}, api.ErrMuch},
		{"255 syms", api.Object{Syms: manySyms(255)}, api.OK},
		{"256 syms", api.Object{Syms: manySyms(256)}, api.ErrMuch},
		{"256 wrong syms", api.Object{Syms: make([]api.Sym, 256)}, api.ErrMuch},
		{"255 wrong syms", api.Object{Syms: make([]api.Sym, 255)}, api.ErrName},
		{"16001 relocs", api.Object{Relocs: make([]api.Reloc, 16001)}, api.ErrMuch},
		{"16001 relocs, and a wrong sym", api.Object{Syms: bad.Syms, Relocs: make([]api.Reloc, 16001)}, api.ErrMuch},
		// So many have no room in 8000 bytes, so that another error comes, and not too much.
		{"16000 relocs", api.Object{Relocs: make([]api.Reloc, 16000)}, api.ErrKind},
	} {
		hold(t, c.what, c.o, c.err)
	}
}

func TestF1WrongOfSyms(t *testing.T) {
	for _, c := range []struct {
		l   []sym
		err api.Errno
	}{
		{[]sym{{"a", 0}, {"b", 12}, {"A", 12}, {"_1", 3}, {"abcdefghij", 1}, {"r1", 2}}, api.OK},
		{[]sym{{"", 0}}, api.ErrName},
		{[]sym{{"abcdefghijk", 0}}, api.ErrName},
		{[]sym{{"1a", 0}}, api.ErrName},
		{[]sym{{"a.b", 0}}, api.ErrName},
		{[]sym{{"a/b", 0}}, api.ErrName},
		{[]sym{{"a b", 0}}, api.ErrName},
		{[]sym{{"\xff", 0}}, api.ErrName},
		{[]sym{{strings.Repeat("a", 300), 0}}, api.ErrName},
		{[]sym{{"a", 0}, {"a", 0}}, api.ErrName},
		{[]sym{{"a", 0}, {"b", 1}, {"c", 2}, {"a", 3}}, api.ErrName},
		{[]sym{{"a", 0}, {"b", 1}, {"c", 2}, {"c", 3}}, api.ErrName},
		{[]sym{{"a", -1}}, api.ErrRange},
		{[]sym{{"a", 13}}, api.ErrRange},
		{[]sym{{"a", math.MinInt}}, api.ErrRange},
		{[]sym{{"a", math.MaxInt}}, api.ErrRange},
		{[]sym{{"a", 1 << 32}}, api.ErrRange},
		// Of one sym the name counts first; of several the first one.
		{[]sym{{"9", 13}}, api.ErrName},
		{[]sym{{"a", 1}, {"a", 13}}, api.ErrName},
		{[]sym{{"a", 13}, {"a", 1}}, api.ErrRange},
		{[]sym{{"a", 13}, {"9", 1}}, api.ErrRange},
		{[]sym{{"9", 1}, {"a", 13}}, api.ErrName},
	} {
		hold(t, fmt.Sprint(c.l), withSyms(c.l...), c.err)
	}
	hold(t, "at 0 of nothing", api.Object{Syms: []api.Sym{{Name: "a"}}}, api.OK)
	hold(t, "at 1 of nothing", api.Object{Syms: []api.Sym{{Name: "a", At: 1}}}, api.ErrRange)
	hold(t, "a wrong sym ahead of a wrong reloc", changed(func(o *api.Object) { o.Syms[2].At, o.Relocs[0].Size = 13, 3 }), api.ErrRange)
	hold(t, "a name of a reloc that is a sym's", changed(func(o *api.Object) { o.Relocs[0].Name = "b" }), api.OK)
}

func TestF1WrongOfRelocs(t *testing.T) {
	type relocs = []api.Reloc
	for _, c := range []struct {
		l   relocs
		err api.Errno
	}{
		{relocs{{At: 0, Size: 2}, {At: 2, Size: 2}, {At: 4, Size: 4}, {At: 8, Size: 4}}, api.OK},
		{relocs{{At: 10, Size: 2}}, api.OK},
		{relocs{{At: 0, Size: 4, Name: "a"}, {At: 8, Size: 4, Name: "a"}}, api.OK},
		{relocs{{Size: 0}}, api.ErrKind},
		{relocs{{Size: 1}}, api.ErrKind},
		{relocs{{Size: 3}}, api.ErrKind},
		{relocs{{Size: 5}}, api.ErrKind},
		{relocs{{Size: 8}}, api.ErrKind},
		{relocs{{Size: -2}}, api.ErrKind},
		{relocs{{Size: -4}}, api.ErrKind},
		{relocs{{Size: math.MinInt}}, api.ErrKind},
		{relocs{{Size: 2 + 256}}, api.ErrKind},
		{relocs{{At: -1, Size: 2}}, api.ErrRange},
		{relocs{{At: -2, Size: 2}}, api.ErrRange},
		{relocs{{At: -4, Size: 4}}, api.ErrRange},
		{relocs{{At: 11, Size: 2}}, api.ErrRange},
		{relocs{{At: 12, Size: 2}}, api.ErrRange},
		{relocs{{At: 9, Size: 4}}, api.ErrRange},
		{relocs{{At: 10, Size: 4}}, api.ErrRange},
		{relocs{{At: 12, Size: 4}}, api.ErrRange},
		{relocs{{At: math.MaxInt - 1, Size: 2}}, api.ErrRange},
		{relocs{{At: math.MaxInt - 3, Size: 4}}, api.ErrRange},
		{relocs{{At: math.MaxInt, Size: 4}}, api.ErrRange},
		{relocs{{At: math.MinInt, Size: 4}}, api.ErrRange},
		{relocs{{At: 0, Size: 2}, {At: 0, Size: 2}}, api.ErrRange},
		{relocs{{At: 0, Size: 4}, {At: 2, Size: 2}}, api.ErrRange},
		{relocs{{At: 4, Size: 4}, {At: 6, Size: 2}}, api.ErrRange},
		{relocs{{At: 4, Size: 2}, {At: 2, Size: 2}}, api.ErrRange},
		{relocs{{At: 0, Size: 2}, {At: 8, Size: 2}, {At: 4, Size: 4}}, api.ErrRange},
		{relocs{{At: 1, Size: 2}}, api.ErrAlign},
		{relocs{{At: 9, Size: 2}}, api.ErrAlign},
		{relocs{{At: 1, Size: 4}}, api.ErrAlign},
		{relocs{{At: 2, Size: 4}}, api.ErrAlign},
		{relocs{{At: 0, Size: 2}, {At: 2, Size: 4}}, api.ErrAlign},
		{relocs{{Size: 2, Name: "9"}}, api.ErrName},
		{relocs{{Size: 2, Name: ".x"}}, api.ErrName},
		{relocs{{Size: 2, Name: " "}}, api.ErrName},
		{relocs{{Size: 2, Name: "abcdefghijk"}}, api.ErrName},
		{relocs{{Size: 2, Name: "abcdefghij"}}, api.OK},
		{relocs{{Size: 2, Add: 1<<31 - 1}, {At: 2, Size: 2, Add: -1 << 31}}, api.OK},
		{relocs{{Size: 2, Add: 1 << 31}}, api.ErrRange},
		{relocs{{Size: 4, Add: -1<<31 - 1}}, api.ErrRange},
		{relocs{{Size: 4, Add: 1 << 32}}, api.ErrRange},
		{relocs{{Size: 4, Add: math.MaxInt}}, api.ErrRange},
		{relocs{{Size: 4, Add: math.MinInt}}, api.ErrRange},
		// Of one reloc in this order; of several the first one.
		{relocs{{At: 13, Size: 3, Name: "9", Add: 1 << 31}}, api.ErrKind},
		{relocs{{At: 13, Size: 2, Name: "9", Add: 1 << 31}}, api.ErrRange},
		{relocs{{At: 4, Size: 4}, {At: 5, Size: 2, Name: "9"}}, api.ErrRange},
		{relocs{{At: 1, Size: 2, Name: "9", Add: 1 << 31}}, api.ErrAlign},
		{relocs{{At: 0, Size: 2, Name: "9", Add: 1 << 31}}, api.ErrName},
		{relocs{{At: 1, Size: 2}, {At: 4, Size: 3}}, api.ErrAlign},
		{relocs{{Size: 2, Add: 1 << 31}, {At: 2, Size: 2, Name: "9"}}, api.ErrRange},
		{relocs{{Size: 2, Name: "9"}, {At: 0, Size: 2}}, api.ErrName},
	} {
		hold(t, fmt.Sprint(c.l), withRelocs(c.l...), c.err)
	}
}

func TestF1WrongOfRelocsInFewBytes(t *testing.T) {
	for n := range 6 {
		for _, size := range []int{2, 4} {
			err := api.OK
			if n < size {
				err = api.ErrRange
			}
			hold(t, fmt.Sprint(size, " of ", n), api.Object{Code: make([]byte, n), Relocs: []api.Reloc{{Size: size}}}, err)
		}
	}
	full := api.Object{Code: make([]byte, 8000), Relocs: make([]api.Reloc, 4000)}
	for i := range full.Relocs {
		full.Relocs[i] = api.Reloc{At: 2 * i, Size: 2}
	}
	hold(t, "as many as may be", full, api.OK)
	full.Code = full.Code[:7999]
	hold(t, "one byte less", full, api.ErrRange)
}

func TestF1WrongAndBytesOnlyRead(t *testing.T) {
	in, all := roomy(some())
	before, _ := roomy(all())
	hold(t, "with spare room", in, api.OK)
	if !reflect.DeepEqual(all(), before) {
		t.Errorf("what was handed in is %v now, not %v", all(), before)
	}
	b, _ := obj.Bytes(in)
	again := slices.Clone(b)
	spoil(in)
	if !slices.Equal(b, again) {
		t.Error("bytes are others behind a change of what was handed in")
	}
}
