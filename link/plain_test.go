package link_test

import (
	"math/rand/v2"
	"slices"
	"testing"

	"platelayer/api"
	"platelayer/link"
	"platelayer/obj"
)

// plainBases counts up, byte by byte.
func plainBases(l []api.Object, base int) (out []int, end int) {
	end = base
	for _, o := range l {
		for end%4 != 0 {
			end++
		}
		out = append(out, end)
		for range o.Code {
			end++
		}
	}
	return out, end
}

// plainFind goes through the names of all objects: where it is, and in how many places.
func plainFind(l []api.Object, bases []int, name string) (at, count int) {
	for i, o := range l {
		for _, s := range o.Syms {
			if s.Name == name {
				at = bases[i] + s.At
				count++
			}
		}
	}
	return at, count
}

// plainFaults puts down all faults, in the chapter's order; objects that are wrong have no others.
func plainFaults(l []api.Object, base int) []api.Fault {
	if base < 0 || base > 1048576 || base%4 != 0 {
		return []api.Fault{{Err: api.ErrRange}}
	}
	if len(l) < 1 || len(l) > 4 {
		return []api.Fault{{Err: api.ErrMany}}
	}
	var out []api.Fault
	for i, o := range l {
		if err := obj.Wrong(o); err != api.OK {
			out = append(out, api.Fault{Err: err, At: i})
		}
	}
	if len(out) > 0 {
		return out
	}
	bases, _ := plainBases(l, base)
	for i, o := range l {
		for _, s := range o.Syms {
			if _, ahead := plainFind(l[:i], bases, s.Name); ahead > 0 {
				out = append(out, api.Fault{Err: api.ErrName, At: i})
			}
		}
	}
	for i, o := range l {
		for _, r := range o.Relocs {
			n, count := plainFind(l, bases, r.Name)
			if r.Name == "" {
				n, count = bases[i], 1
			}
			if count == 0 {
				out = append(out, api.Fault{Err: api.ErrNone, At: i})
			} else if n = int(int32(n + r.Add)); r.Size == 2 && (n < -32768 || n > 65535) {
				out = append(out, api.Fault{Err: api.ErrRange, At: i})
			}
		}
	}
	return out
}

// plainLink writes each byte to its place, one by one.
func plainLink(l []api.Object, base int) (api.Image, api.Fault) {
	if faults := plainFaults(l, base); len(faults) > 0 {
		return api.Image{}, faults[0]
	}
	bases, end := plainBases(l, base)
	at := map[int]byte{}
	out := api.Image{Base: base}
	for i, o := range l {
		for k, b := range o.Code {
			at[bases[i]+k] = b
		}
		for _, s := range o.Syms {
			out.Syms = append(out.Syms, api.Sym{Name: s.Name, At: bases[i] + s.At})
		}
		for _, r := range o.Relocs {
			n, _ := plainFind(l, bases, r.Name)
			if r.Name == "" {
				n = bases[i]
			}
			n = int(int32(n + r.Add))
			for k := range r.Size {
				at[bases[i]+r.At+k] = byte(n >> (8 * (r.Size - 1 - k)))
			}
		}
	}
	for p := base; p < end; p++ {
		out.Bytes = append(out.Bytes, at[p])
	}
	return out, api.Fault{}
}

// made is an object of few bytes, whose names are some of a few, or may be asked for; little is wrong.
func made(r *rand.Rand, own, asked []string) api.Object {
	o := api.Object{Code: make([]byte, r.IntN(20))}
	for i := range o.Code {
		o.Code[i] = byte(r.Uint32())
	}
	for _, name := range own {
		o.Syms = append(o.Syms, api.Sym{Name: name, At: r.IntN(len(o.Code) + 1 + r.IntN(80)/79)})
	}
	for at := 0; at+4 <= len(o.Code); {
		size := 2 + 2*r.IntN(2)
		at = (at + size - 1) / size * size
		if at+size <= len(o.Code) && r.IntN(2) == 0 {
			add := r.IntN(200) - 100
			if r.IntN(6) == 0 {
				add = int(int32(r.Uint32())) + r.IntN(80)/79<<32
			}
			o.Relocs = append(o.Relocs, api.Reloc{At: at, Size: size, Name: asked[r.IntN(len(asked))], Add: add})
		}
		at += size
	}
	return o
}

// madeList is up to five objects, of which most have names of their own.
func madeList(r *rand.Rand) []api.Object {
	names := []string{"a", "b", "c", "d", "e", "f", "g", "h", "i", "j"}
	asked := slices.Concat([]string{""}, names[:4+r.IntN(7)])
	count := 1 + r.IntN(4)
	if r.IntN(30) == 0 {
		count = 5 * r.IntN(2)
	}
	var out []api.Object
	for i := range count {
		own := names[2*i : 2*i+1+r.IntN(2)]
		if r.IntN(30) == 0 {
			own = names[2*max(i-1, 0) : 2*i+1]
		}
		out = append(out, made(r, own, asked))
	}
	return out
}

// madeBase is a base, often one near which half words no longer reach.
func madeBase(r *rand.Rand) int {
	base := []int{0, 400, 32768, 65536 - 64, 65536, 1<<20 - 64}[r.IntN(6)] + 4*r.IntN(20)
	if r.IntN(30) == 0 {
		return base - r.IntN(8)
	}
	return base
}

func TestG1OfManyLists(t *testing.T) {
	r := rand.New(rand.NewPCG(7, 1))
	seen := map[api.Errno]int{}
	for range 60000 {
		l, base := madeList(r), madeBase(r)
		want, fault := plainLink(l, base)
		if got, f := link.Link(l, base); !same(got, want) || f != fault {
			t.Fatalf("Link(%v, %d) is %v %v, not %v %v", l, base, got, f, want, fault)
		}
		seen[fault.Err]++
		base += r.IntN(4)
		bases, last := plainBases(l, max(base, 0))
		if at, end := link.Bases(l, max(base, 0)); !slices.Equal(at, bases) || end != last {
			t.Fatalf("Bases(%v, %d) is %v %d, not %v %d", l, base, at, end, bases, last)
		}
	}
	for _, err := range []api.Errno{api.OK, api.ErrRange, api.ErrMany, api.ErrName, api.ErrNone} {
		if seen[err] < 400 {
			t.Errorf("only %d lists have error %v", seen[err], err)
		}
	}
}

func TestG1MovedItIsTheSame(t *testing.T) {
	r := rand.New(rand.NewPCG(7, 2))
	moved := 0
	for range 4000 {
		l := madeList(r)
		for i := range l {
			// Half words would not reach everywhere.
			l[i].Relocs = slices.DeleteFunc(l[i].Relocs, func(x api.Reloc) bool { return x.Size == 2 })
		}
		far := 4 * r.IntN(1<<18+1)
		here, f := link.Link(l, 0)
		there, g := link.Link(l, far)
		if f != g {
			t.Fatalf("Link(%v) at 0 has fault %v, and at %d %v", l, f, far, g)
		}
		if f != (api.Fault{}) {
			continue
		}
		moved++
		bases, _ := link.Bases(l, 0)
		for i, o := range l {
			for _, x := range o.Relocs {
				add(here.Bytes[bases[i]+x.At:][:4], far)
			}
		}
		for i := range here.Syms {
			here.Syms[i].At += far
		}
		if here.Base = far; !same(here, there) {
			t.Fatalf("Link(%v) at %d is %v, and moved there %v", l, far, there, here)
		}
	}
	if moved < 400 {
		t.Errorf("only %d lists have no fault", moved)
	}
}

// add makes a number of four bytes so much greater.
func add(b []byte, n int) {
	for i := len(b) - 1; i >= 0; i-- {
		n += int(b[i])
		b[i] = byte(n)
		n >>= 8
	}
}
