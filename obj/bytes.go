package obj

import (
	"platelayer/api"
	"platelayer/isa"
)

// mark is what every object's bytes begin with.
const mark = "OBJ"

// How many bytes numbers have: sizes, and how many bytes a name has, are narrow, all others wide.
const (
	narrow = 1
	wide   = 4
)

// Bytes answers an object as bytes, or what is Wrong with it.
func Bytes(o api.Object) ([]byte, api.Errno) {
	if err := Wrong(o); err != api.OK {
		return nil, err
	}
	out := number([]byte(mark), wide, len(o.Code))
	out = append(out, o.Code...)
	out = number(out, wide, len(o.Syms))
	for _, s := range o.Syms {
		out = name(out, s.Name)
		out = number(out, wide, s.At)
	}
	out = number(out, wide, len(o.Relocs))
	for _, r := range o.Relocs {
		out = number(out, wide, r.At)
		out = number(out, narrow, r.Size)
		out = name(out, r.Name)
		out = number(out, wide, r.Add)
	}
	return out, api.OK
}

func number(out []byte, size, n int) []byte {
	return append(out, isa.Put(make([]byte, size), 0, size, n)...)
}

func name(out []byte, s string) []byte {
	return append(number(out, narrow, len(s)), s...)
}

// Parse answers the object of what Bytes writes: ErrForm, if it is written otherwise; what is Wrong with it.
func Parse(b []byte) (api.Object, api.Errno) {
	r := reader{rest: b}
	if string(r.take(len(mark))) != mark {
		return api.Object{}, api.ErrForm
	}
	o := api.Object{Code: r.take(r.number(wide))}
	o.Syms = list(&r, maxSyms, r.sym)
	o.Relocs = list(&r, maxRelocs, r.reloc)
	if r.short || len(r.rest) > 0 {
		return api.Object{}, api.ErrForm
	}
	if err := Wrong(o); err != api.OK {
		return api.Object{}, err
	}
	// The code is still a piece of b: only what is not wrong, and so not long, is worth a copy.
	return Own(o), api.OK
}

// reader is what is left of bytes, and whether more was asked for than there was.
type reader struct {
	rest  []byte
	short bool
}

// take answers the next n bytes: none, if there are fewer.
func (r *reader) take(n int) []byte {
	if n > len(r.rest) {
		r.short = true
		return nil
	}
	out := r.rest[:n]
	r.rest = r.rest[n:]
	return out
}

func (r *reader) number(size int) int {
	return isa.Get(r.take(size), 0, size)
}

func (r *reader) name() string {
	return string(r.take(r.number(narrow)))
}

func (r *reader) sym() api.Sym {
	return api.Sym{Name: r.name(), At: r.number(wide)}
}

func (r *reader) reloc() api.Reloc {
	return api.Reloc{At: r.number(wide), Size: r.number(narrow), Name: r.name(), Add: isa.Signed(r.number(wide))}
}

// list reads how many entries there are, and these. Of more than most it keeps one more, which is enough to be Wrong: the others must
// be there, but need no room.
func list[T any](r *reader, most int, entry func() T) []T {
	var out []T
	for n := r.number(wide); n > 0 && !r.short; n-- {
		if x := entry(); len(out) <= most {
			out = append(out, x)
		}
	}
	return out
}
