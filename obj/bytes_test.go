package obj_test

import (
	"bytes"
	"encoding/binary"
	"fmt"
	"io"
	"math/rand/v2"
	"runtime"
	"slices"
	"strings"
	"testing"

	"platelayer/api"
	"platelayer/asm"
	"platelayer/obj"
)

// wide is numbers in four bytes each.
func wide(l ...int) string {
	out := ""
	for _, n := range l {
		out += string([]byte{byte(n >> 24), byte(n >> 16), byte(n >> 8), byte(n)})
	}
	return out
}

// written is what Bytes must make of objects, put down by hand.
var written = []struct {
	o    api.Object
	text string
}{
	{api.Object{}, "OBJ" + wide(0, 0, 0)},
	{api.Object{Code: []byte{0xff, 0, 'O'}}, "OBJ" + wide(3) + "\xff\x00O" + wide(0, 0)},
	{api.Object{Syms: []api.Sym{{Name: "a"}}}, "OBJ" + wide(0, 1) + "\x01a" + wide(0, 0)},
	{api.Object{Code: []byte{1, 2}, Relocs: []api.Reloc{{Size: 2}}}, "OBJ" + wide(2) + "\x01\x02" + wide(0, 1, 0) + "\x02\x00" + wide(0)},
	{
		api.Object{Code: []byte{1, 2, 3, 4}, Syms: []api.Sym{{Name: "b", At: 4}, {Name: "a", At: 0}}, Relocs: []api.Reloc{{Size: 4, Name: "far", Add: -1}}},
		"OBJ\x00\x00\x00\x04\x01\x02\x03\x04" + "\x00\x00\x00\x02\x01b\x00\x00\x00\x04\x01a\x00\x00\x00\x00" +
			"\x00\x00\x00\x01\x00\x00\x00\x00\x04\x03far\xff\xff\xff\xff",
	},
	{
		some(),
		"OBJ" + wide(12) + "\x01\x02\x03\x04\x05\x06\x07\x08\x09\x0a\x0b\x0c" + wide(3) + "\x01a" + wide(2) + "\x0a_Long_name" + wide(12) + "\x01b" + wide(0) +
			wide(4, 0) + "\x02\x00" + wide(-7, 4) + "\x04\x02zz" + wide(9, 8) + "\x02\x01a" + wide(0, 10) + "\x02\x00" + wide(0),
	},
	{
		api.Object{Code: make([]byte, 600), Syms: []api.Sym{{Name: "x", At: 515}}, Relocs: []api.Reloc{{At: 260, Size: 4, Add: 1<<31 - 1}, {At: 514, Size: 2, Add: -1 << 31}}},
		"OBJ\x00\x00\x02\x58" + strings.Repeat("\x00", 600) + wide(1) + "\x01x\x00\x00\x02\x03" + wide(2) +
			"\x00\x00\x01\x04\x04\x00\x7f\xff\xff\xff" + "\x00\x00\x02\x02\x02\x00\x80\x00\x00\x00",
	},
}

func TestF1BytesAsWritten(t *testing.T) {
	for _, c := range written {
		if b, err := obj.Bytes(c.o); string(b) != c.text || err != api.OK {
			t.Errorf("Bytes(%.300v) is %q %v, not %q", c.o, b, err, c.text)
		}
	}
}

func TestF1ParseOfWhatIsWritten(t *testing.T) {
	for _, c := range written {
		if o, err := obj.Parse([]byte(c.text)); !same(o, c.o) || err != api.OK {
			t.Errorf("Parse(%q) is %.300v %v, not %.300v", c.text, o, err, c.o)
		}
	}
}

// refuse fails if Parse has another error, or something beside it.
func refuse(t *testing.T, text string, err api.Errno) {
	t.Helper()
	if o, got := obj.Parse([]byte(text)); got != err || !same(o, api.Object{}) {
		t.Errorf("Parse(%.300q) is %.300v %v, not %v", text, o, got, err)
	}
}

func TestF1ParseOfTooFewAndTooMany(t *testing.T) {
	for _, c := range written {
		for k := range len(c.text) {
			refuse(t, c.text[:k], api.ErrForm)
		}
		refuse(t, c.text+"\x00", api.ErrForm)
		refuse(t, c.text+c.text, api.ErrForm)
		refuse(t, "\x00"+c.text, api.ErrForm)
	}
	if o, err := obj.Parse(nil); err != api.ErrForm || !same(o, api.Object{}) {
		t.Errorf("Parse(nil) is %v %v", o, err)
	}
}

func TestF1ParseOfOtherForms(t *testing.T) {
	rest := wide(0, 0, 0)
	for _, text := range []string{
		"", "O", "OBJ", "obj" + rest, "OBK" + rest, "PBJ" + rest, "OCJ" + rest, " OBJ" + rest, rest,
		// Other numbers than there are entries, and the greatest ones.
		"OBJ" + wide(1, 0, 0), "OBJ" + wide(0, 1, 0), "OBJ" + wide(0, 0, 1),
		"OBJ" + wide(-1, 0, 0), "OBJ" + wide(0, -1, 0), "OBJ" + wide(0, 0, -1), "OBJ" + wide(1<<31, 0, 0), "OBJ" + wide(0, 1<<31, 0),
		"OBJ" + wide(12), "OBJ" + wide(13, 0, 0) + "\x00", "OBJ" + wide(8, 0, 0), "OBJ" + wide(4, 0, 0, 0, 0),
		"OBJ" + wide(0, 2) + "\x01a" + wide(0, 0), "OBJ" + wide(0, 0) + "\x01a" + wide(0, 0),
		// Names that have other lengths than it says.
		"OBJ" + wide(0, 1) + "\x02a" + wide(0, 0), "OBJ" + wide(0, 1) + "\x00a" + wide(0, 0), "OBJ" + wide(0, 1) + "\xffa" + wide(0, 0),
		"OBJ" + wide(2) + "ab" + wide(0, 1, 0) + "\x02\x01" + wide(0),
		// What is wrong, too, is written otherwise first.
		"OBJ" + wide(8001) + strings.Repeat("a", 8001) + wide(0), "OBJ" + wide(0, 1) + "\x019" + wide(0, 0) + "\x00",
		"OBJ" + wide(0, 256) + strings.Repeat("\x00"+wide(0), 256) + wide(1), "OBJ" + wide(0, 257) + strings.Repeat("\x00"+wide(0), 256) + wide(0),
		"OBJ" + wide(0, 0, 16001) + strings.Repeat(wide(0)+"\x02\x00"+wide(0), 16000), "OBJ" + wide(0, 0, 16001) + strings.Repeat(wide(0)+"\x02\x00"+wide(0), 16002),
	} {
		refuse(t, text, api.ErrForm)
	}
}

// put is an object as Bytes would write it, if nothing were wrong with it; names have up to 255 bytes, and numbers up to 32 bits.
func put(o api.Object) string {
	out := "OBJ" + wide(len(o.Code)) + string(o.Code) + wide(len(o.Syms))
	for _, s := range o.Syms {
		out += string([]byte{byte(len(s.Name))}) + s.Name + wide(s.At)
	}
	var b strings.Builder
	for _, r := range o.Relocs {
		b.WriteString(wide(r.At) + string([]byte{byte(r.Size), byte(len(r.Name))}) + r.Name + wide(r.Add))
	}
	return out + wide(len(o.Relocs)) + b.String()
}

func TestF1ParseOfWhatIsWrong(t *testing.T) {
	for _, c := range []struct {
		o   api.Object
		err api.Errno
	}{
		{api.Object{Code: make([]byte, 8001)}, api.ErrMuch},
		{api.Object{Code: make([]byte, 70000)}, api.ErrMuch},
		{api.Object{Syms: manySyms(256)}, api.ErrMuch},
		{api.Object{Syms: make([]api.Sym, 300)}, api.ErrMuch},
		{api.Object{Relocs: make([]api.Reloc, 16001)}, api.ErrMuch},
		{api.Object{Syms: make([]api.Sym, 1), Relocs: make([]api.Reloc, 16002)}, api.ErrMuch},
		{api.Object{Relocs: make([]api.Reloc, 16000)}, api.ErrKind},
		{withSyms(sym{Name: ""}), api.ErrName},
		{withSyms(sym{Name: "9"}), api.ErrName},
		{withSyms(sym{Name: strings.Repeat("a", 11)}), api.ErrName},
		{withSyms(sym{Name: strings.Repeat("a", 255)}), api.ErrName},
		{withSyms(sym{Name: "a"}, sym{Name: "a"}), api.ErrName},
		{withSyms(sym{Name: "a", At: 13}), api.ErrRange},
		{withSyms(sym{Name: "a", At: -1}), api.ErrRange},
		{withRelocs(api.Reloc{Size: 0}), api.ErrKind},
		{withRelocs(api.Reloc{Size: 3}), api.ErrKind},
		{withRelocs(api.Reloc{Size: 255}), api.ErrKind},
		{withRelocs(api.Reloc{At: -2, Size: 2}), api.ErrRange},
		{withRelocs(api.Reloc{At: 12, Size: 2}), api.ErrRange},
		{withRelocs(api.Reloc{At: 2, Size: 2}, api.Reloc{At: 0, Size: 2}), api.ErrRange},
		{withRelocs(api.Reloc{At: 2, Size: 4}), api.ErrAlign},
		{withRelocs(api.Reloc{Size: 2, Name: "."}), api.ErrName},
		{withRelocs(api.Reloc{Size: 2, Name: strings.Repeat("z", 200)}), api.ErrName},
	} {
		refuse(t, put(c.o), c.err)
	}
}

func TestF1ParseSharesNothing(t *testing.T) {
	text, _ := obj.Bytes(some())
	b := append(slices.Clone(text), "more"...)
	o, err := obj.Parse(b[:len(text)])
	if err != api.OK || !same(o, some()) {
		t.Fatalf("Parse is %v %v", o, err)
	}
	for i := range b {
		b[i] ^= 0xff
	}
	if !same(o, some()) {
		t.Errorf("the object is %v behind a change of its bytes", o)
	}
	spoilt := slices.Clone(b)
	spoil(o)
	if !slices.Equal(b, spoilt) {
		t.Error("bytes are others behind a change of the object")
	}
}

// plainParse reads by the library's means; what is wrong with an object is what plainWrong says.
func plainParse(b []byte) (api.Object, api.Errno) {
	r := bytes.NewReader(b)
	fine := true
	take := func(n int64) string {
		out, err := io.ReadAll(io.LimitReader(r, n))
		fine = fine && err == nil && int64(len(out)) == n
		return string(out)
	}
	number := func() (n uint32) {
		fine = fine && binary.Read(r, binary.BigEndian, &n) == nil
		return n
	}
	fine = take(3) == "OBJ" && fine
	o := api.Object{Code: []byte(take(int64(number())))}
	for n := number(); n > 0 && fine; n-- {
		name := take(int64((take(1) + "\x00")[0]))
		o.Syms = append(o.Syms, api.Sym{Name: name, At: int(number())})
	}
	for n := number(); n > 0 && fine; n-- {
		at, size := int(number()), int((take(1) + "\x00")[0])
		name := take(int64((take(1) + "\x00")[0]))
		o.Relocs = append(o.Relocs, api.Reloc{At: at, Size: size, Name: name, Add: int(int32(number()))})
	}
	if !fine || r.Len() > 0 {
		return api.Object{}, api.ErrForm
	}
	if err := plainWrong(o); err != api.OK {
		return api.Object{}, err
	}
	return o, api.OK
}

// plainName is a name, byte by byte.
func plainName(s string) bool {
	const letters = "abcdefghijklmnopqrstuvwxyzABCDEFGHIJKLMNOPQRSTUVWXYZ_"
	for i := range len(s) {
		if strings.IndexByte(letters, s[i]) < 0 && (i == 0 || strings.IndexByte("0123456789", s[i]) < 0) {
			return false
		}
	}
	return 1 <= len(s) && len(s) <= 10
}

// plainWrong puts down all that is wrong, in the chapter's order, and answers the first. Bytes that relocs have are marked, one by one;
// one that is out of order is told by where the ones ahead end.
func plainWrong(o api.Object) api.Errno {
	all := []api.Errno{}
	add := func(wrong bool, err api.Errno) {
		if wrong {
			all = append(all, err)
		}
	}
	add(len(o.Code) > 8000 || len(o.Syms) > 255 || len(o.Relocs) > 16000, api.ErrMuch)
	for i, s := range o.Syms {
		twice := slices.ContainsFunc(o.Syms[:i], func(x api.Sym) bool { return x.Name == s.Name })
		add(!plainName(s.Name) || twice, api.ErrName)
		add(s.At < 0 || s.At > len(o.Code), api.ErrRange)
	}
	taken := map[int]bool{}
	for i, r := range o.Relocs {
		bad := i > 0 && r.At < o.Relocs[i-1].At
		for k := range max(r.Size, 0) {
			bad = bad || taken[r.At+k] || r.At+k < 0 || r.At+k >= len(o.Code)
			taken[r.At+k] = true
		}
		add(r.Size != 2 && r.Size != 4, api.ErrKind)
		add(bad, api.ErrRange)
		add(r.Size != 0 && r.At%r.Size != 0, api.ErrAlign)
		add(r.Name != "" && !plainName(r.Name), api.ErrName)
		add(r.Add < -1<<31 || r.Add > 1<<31-1, api.ErrRange)
	}
	return append(all, api.OK)[0]
}

// against fails if Parse of b is not the plain one, or, where there is no error, Bytes of that is not b.
func against(t *testing.T, b []byte) api.Errno {
	t.Helper()
	o, err := obj.Parse(b)
	p, plain := plainParse(b)
	if !same(o, p) || err != plain {
		t.Fatalf("Parse(%q) is %v %v, not %v %v", b, o, err, p, plain)
	}
	if err == api.OK {
		if again, e := obj.Bytes(o); !slices.Equal(again, b) || e != api.OK {
			t.Fatalf("Bytes of what %q is are %q %v", b, again, e)
		}
	}
	return err
}

func TestF1ParseOfEveryOtherByte(t *testing.T) {
	seen := map[api.Errno]int{}
	for _, c := range written[:len(written)-1] {
		for i := range len(c.text) {
			b := []byte(c.text)
			for x := range 256 {
				b[i] = byte(x)
				seen[against(t, b)]++
			}
			seen[against(t, slices.Delete([]byte(c.text), i, i+1))]++
			seen[against(t, slices.Insert([]byte(c.text), i, 0))]++
		}
	}
	for _, err := range []api.Errno{api.OK, api.ErrForm, api.ErrKind, api.ErrRange, api.ErrAlign, api.ErrName} {
		if seen[err] == 0 {
			t.Errorf("no text has error %v", err)
		}
	}
}

// made is an object of few bytes, in which something may be wrong.
func made(r *rand.Rand) api.Object {
	names := []string{"", "a", "b", "c", "zz", "abcdefghij", "abcdefghijk", "9", ".x"}
	name := func() string { return names[r.IntN(len(names)-r.IntN(4))] }
	o := api.Object{Code: make([]byte, r.IntN(24))}
	for i := range o.Code {
		o.Code[i] = byte(r.Uint32())
	}
	for range r.IntN(4) {
		o.Syms = append(o.Syms, api.Sym{Name: name(), At: r.IntN(len(o.Code)+2) - r.IntN(60)/59})
	}
	at := 0
	for range r.IntN(5) {
		size := []int{2, 4, 2, 4, 2, 4, 3}[r.IntN(7-r.IntN(2))]
		at += r.IntN(3) * r.IntN(3)
		if r.IntN(6) > 0 {
			at = (at + size - 1) / size * size
		}
		add := int(int32(r.Uint32()))
		o.Relocs = append(o.Relocs, api.Reloc{At: at, Size: size, Name: name(), Add: add + r.IntN(40)/39<<31})
		at += size - r.IntN(12)/11
	}
	return o
}

func TestF1OfManyObjects(t *testing.T) {
	r := rand.New(rand.NewPCG(6, 1))
	seen := map[api.Errno]int{}
	for range 60000 {
		o := made(r)
		err := plainWrong(o)
		seen[err]++
		b, got := obj.Bytes(o)
		if wrong := obj.Wrong(o); wrong != err || got != err {
			t.Fatalf("Wrong(%v) is %v, and Bytes's error %v, not %v", o, wrong, got, err)
		}
		if !same(obj.Own(o), o) {
			t.Fatalf("Own(%v) is %v", o, obj.Own(o))
		}
		if err != api.OK {
			if len(b) > 0 {
				t.Fatalf("Bytes(%v) is %q beside an error", o, b)
			}
			against(t, []byte(put(o)))
			continue
		}
		if string(b) != put(o) {
			t.Fatalf("Bytes(%v) is %q, not %q", o, b, put(o))
		}
		if p, err := obj.Parse(b); !same(p, o) || err != api.OK {
			t.Fatalf("Parse of what %v is as bytes is %v %v", o, p, err)
		}
	}
	for _, err := range []api.Errno{api.OK, api.ErrKind, api.ErrRange, api.ErrAlign, api.ErrName} {
		if seen[err] < 100 {
			t.Errorf("only %d objects have error %v", seen[err], err)
		}
	}
}

func TestF1OfUnits(t *testing.T) {
	for _, s := range []string{"", "nop", "mov.l =a,r1\na: bra a\nnop", ".long far, -1, a+4\na: .word far-1\n.byte 1\nend:", "a: b: c:"} {
		o, f := asm.Unit([]byte(s))
		b, err := obj.Bytes(o)
		p, again := obj.Parse(b)
		if f.Err != api.OK || err != api.OK || again != api.OK || !same(o, p) {
			t.Errorf("%q is %v %v, and of its bytes (%v) comes %v %v", s, o, f, err, p, again)
		}
	}
}

// room fails if Parse asks for much of it, or answers another error.
func room(t *testing.T, what string, b []byte, err api.Errno) {
	t.Helper()
	var before, behind runtime.MemStats
	runtime.ReadMemStats(&before)
	o, got := obj.Parse(b)
	runtime.ReadMemStats(&behind)
	if got != err || !same(o, api.Object{}) {
		t.Errorf("%s: Parse is %.200v %v, not %v", what, o, got, err)
	}
	if n := behind.TotalAlloc - before.TotalAlloc; n > 8<<20 {
		t.Errorf("%s: Parse asks for %d bytes", what, n)
	}
}

func TestF1ParseTakesNoRoomForWhatIsTooMuch(t *testing.T) {
	const many = 1 << 22
	sym, reloc := "\x00"+wide(0), wide(0)+"\x02\x00"+wide(0)
	for _, c := range []struct {
		what, text string
		err        api.Errno
	}{
		{"many bytes", "OBJ" + wide(16*many) + strings.Repeat("a", 16*many) + wide(0, 0), api.ErrMuch},
		{"many syms", "OBJ" + wide(0, many) + strings.Repeat(sym, many) + wide(0), api.ErrMuch},
		{"many relocs", "OBJ" + wide(0, 0, many) + strings.Repeat(reloc, many), api.ErrMuch},
		{"fewer bytes than it says", "OBJ" + wide(-1, 0, 0), api.ErrForm},
		{"fewer syms than it says", "OBJ" + wide(0, -1) + strings.Repeat(sym, many), api.ErrForm},
		{"fewer relocs than it says", "OBJ" + wide(0, 0, -1) + strings.Repeat(reloc, many), api.ErrForm},
	} {
		room(t, c.what, []byte(c.text), c.err)
	}
}

func Example() {
	b, err := obj.Bytes(api.Object{Code: []byte{0, 9, 0, 0}, Syms: []api.Sym{{Name: "a", At: 0}}, Relocs: []api.Reloc{{At: 2, Size: 2, Name: "b", Add: -1}}})
	fmt.Printf("%q %v\n", b, err)
	o, err := obj.Parse(b)
	fmt.Println(o, err)
	// Output:
	// "OBJ\x00\x00\x00\x04\x00\t\x00\x00\x00\x00\x00\x01\x01a\x00\x00\x00\x00\x00\x00\x00\x01\x00\x00\x00\x02\x02\x01b\xff\xff\xff\xff" 0
	// {[0 9 0 0] [{a 0}] [{2 2 b -1}]} 0
}
