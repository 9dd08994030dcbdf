package farm_test

import (
	"fmt"
	"math"
	"slices"
	"strings"
	"testing"

	"platelayer/api"
	"platelayer/asm"
	"platelayer/farm"
	"platelayer/link"
)

// sources is texts as sources.
func sources(l ...string) [][]byte {
	var out [][]byte
	for _, s := range l {
		out = append(out, []byte(s))
	}
	return out
}

// sameImage is whether two images are, nil and lists without entries being the same.
func sameImage(a, b api.Image) bool {
	return a.Base == b.Base && slices.Equal(a.Bytes, b.Bytes) && slices.Equal(a.Syms, b.Syms)
}

// refused fails if Build has another fault, or something beside it.
func refused(t *testing.T, what string, l [][]byte, base int, err api.Errno, at int) {
	t.Helper()
	if got, f := farm.Build(l, base); !sameImage(got, api.Image{}) || f != (api.Fault{Err: err, At: at}) {
		t.Errorf("%s: Build is %v %v, not error %d at %d", what, got, f, err, at)
	}
}

// labels is a source of so many of them, which an assembler takes, however many they are.
func labels(n int) string {
	var b strings.Builder
	for k := range n {
		fmt.Fprintf(&b, "%c%c:", 'a'+k/20, 'A'+k%20)
		if k%20 == 19 {
			b.WriteString("\n")
		}
	}
	return b.String()
}

func TestK1Build(t *testing.T) {
	for _, c := range []struct {
		l    [][]byte
		base int
		want api.Image
	}{
		{sources("nop"), 0, api.Image{Bytes: []byte{0, 9}}},
		{sources(""), 8, api.Image{Base: 8}},
		{sources("a: mov #5,r1\ntrapa #0"), 8, api.Image{Base: 8, Bytes: []byte{0xe1, 5, 0xc3, 0}, Syms: []api.Sym{{Name: "a", At: 8}}}},
		{sources("a: nop", ".long a+1"), 8, api.Image{Base: 8, Bytes: []byte{0, 9, 0, 0, 0, 0, 0, 9}, Syms: []api.Sym{{Name: "a", At: 8}}}},
		{sources(".long b", ".byte 1", "b: nop"), 1 << 20, api.Image{Base: 1 << 20, Bytes: []byte{0, 0x10, 0, 8, 1, 0, 0, 0, 0, 9}, Syms: []api.Sym{{Name: "b", At: 1<<20 + 8}}}},
	} {
		if got, f := farm.Build(c.l, c.base); !sameImage(got, c.want) || f != (api.Fault{}) {
			t.Errorf("Build(%q, %d) is %v %v, not %v", c.l, c.base, got, f, c.want)
		}
	}
}

func TestK1BuildsFaultsOfSources(t *testing.T) {
	// They are told at the source's number, not at the line's.
	refused(t, "the second line of the first one", sources("nop\nbad", "bad"), 0, api.ErrKind, 0)
	refused(t, "the third line of the second one", sources("nop", "nop\nnop\nmov #300,r1"), 0, api.ErrRange, 1)
	refused(t, "the last one", sources("nop", "nop", "nop", "bra a"), 0, api.ErrNone, 3)
	refused(t, "too long a one", sources("nop", strings.Repeat("\n", api.MaxSource+1)), 0, api.ErrMuch, 1)
	// Its object is wrong, though it can be assembled.
	if _, f := asm.Unit([]byte(labels(256))); f != (api.Fault{}) {
		t.Fatalf("256 labels have fault %v", f)
	}
	refused(t, "256 labels", sources("nop", labels(256), "bad"), 0, api.ErrMuch, 1)
	refused(t, "256 labels behind what is bad", sources("bad", labels(256)), 0, api.ErrKind, 0)
	if got, f := farm.Build(sources(labels(255)), 0); len(got.Syms) != 255 || f != (api.Fault{}) {
		t.Errorf("255 labels: Build has %d of them, and fault %v", len(got.Syms), f)
	}
}

func TestK1BuildsFaultsOfAll(t *testing.T) {
	refused(t, "no source", nil, 0, api.ErrMany, 0)
	refused(t, "no source", [][]byte{}, 0, api.ErrMany, 0)
	refused(t, "five", sources("", "", "", "", ""), 0, api.ErrMany, 0)
	for _, base := range []int{math.MinInt, -4, -1, 1, 2, 3, 1<<20 + 1, 1<<20 + 4, math.MaxInt} {
		refused(t, "no base", sources("nop"), base, api.ErrRange, 0)
		refused(t, "no base, and no source", nil, base, api.ErrRange, 0)
		// Sources come ahead of the base, and of how many there are.
		refused(t, "no base, and a bad source", sources("nop", "bad"), base, api.ErrKind, 1)
		refused(t, "no base, and the sixth is bad", sources("", "", "", "", "", "bad"), base, api.ErrKind, 5)
	}
	refused(t, "a name twice", sources("a: nop", "nop", "a: nop"), 0, api.ErrName, 2)
	refused(t, "no such name", sources("a: nop", ".long b"), 0, api.ErrNone, 1)
	refused(t, "too far", sources("nop", "nop", ".word a", "a: nop"), 1<<20, api.ErrRange, 2)
}

func TestK1BuildIsUnitsAndLink(t *testing.T) {
	all := []string{"", "nop", "a: nop\n.long b", "b: .byte 1", ".macro m x\nmov #x,r1\n.endm\nm 5\n.word a", "mov.l =a,r1", "bad", "a: b: nop", ".word b-70000", labels(256)}
	for _, x := range all {
		for _, y := range all {
			for _, z := range all {
				l := sources(x, y, z)
				want, wanted := one(l, 12)
				if got, f := farm.Build(l, 12); !sameImage(got, want) || f != wanted {
					t.Fatalf("Build(%q) is %v %v, not %v %v", l, got, f, want, wanted)
				}
			}
		}
	}
}

// one links all objects, if none has a fault; here no other object is wrong than one with too many names.
func one(l [][]byte, base int) (api.Image, api.Fault) {
	var all []api.Object
	for k, s := range l {
		o, f := asm.Unit(s)
		if f.Err != api.OK {
			return api.Image{}, api.Fault{Err: f.Err, At: k}
		}
		if len(o.Syms) > 255 {
			return api.Image{}, api.Fault{Err: api.ErrMuch, At: k}
		}
		all = append(all, o)
	}
	return link.Link(all, base)
}

func TestK1BuildOnlyReads(t *testing.T) {
	room := []byte("a: nop\n.long anop\nbad")
	l := append(make([][]byte, 0, 4), room[:14])
	got, f := farm.Build(l, 0)
	if string(room) != "a: nop\n.long anop\nbad" || len(l) != 1 || l[:2][1] != nil || f.Err != api.ErrAlign {
		t.Errorf("Build leaves %q %q, and answers %v %v", room, l[:2], got, f)
	}
	l[0] = []byte("a: nop")
	got, _ = farm.Build(l, 4)
	l[0][0] = 'z'
	if len(got.Syms) != 1 || got.Syms[0].Name != "a" {
		t.Errorf("Build keeps what it was handed: %v", got)
	}
}
