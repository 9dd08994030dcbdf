package asm

import (
	"platelayer/api"
	"platelayer/isa"
)

// write answers the object of all items, or the first one's fault.
func (u *unit) write() (api.Object, api.Fault) {
	var out api.Object
	for i, x := range u.items {
		at := u.places[i]
		if at%x.align != 0 {
			return api.Object{}, api.Fault{Err: api.ErrAlign, At: x.line}
		}
		b, err := x.bytes(at, u.places[i+1]-at)
		if err != api.OK {
			return api.Object{}, api.Fault{Err: err, At: x.line}
		}
		out.Code = append(out.Code, b...)
	}
	for _, name := range u.names {
		out.Syms = append(out.Syms, api.Sym{Name: name, At: u.places[u.labels[name]]})
	}
	out.Relocs = u.relocs
	return out, api.Fault{}
}

// noughts answers the item that fills up to a multiple.
func noughts(upTo int) item {
	return item{upTo: upTo, align: 1, bytes: func(_, size int) ([]byte, api.Errno) { return make([]byte, size), api.OK }}
}

// number answers the item of a value: of a place noughts, that are told later.
func (u *unit) number(size int, v api.Value) item {
	return item{size: size, upTo: 1, align: size, bytes: func(at, _ int) ([]byte, api.Errno) {
		if v.Name == "" {
			return isa.Put(make([]byte, size), 0, size, v.N), api.OK
		}
		r := api.Reloc{At: at, Size: size, Name: v.Name, Add: v.N}
		if place, err := u.placeOf(v); err == api.OK {
			r.Name, r.Add = "", isa.Signed(place)
		}
		u.relocs = append(u.relocs, r)
		return make([]byte, size), api.OK
	}}
}

// plain answers the item of an instruction that is whole.
func plain(i api.Instr) item {
	return item{size: halfWord, upTo: 1, align: halfWord, bytes: func(_, _ int) ([]byte, api.Errno) { return encoded(i) }}
}

// leading answers the item of an instruction that leads to a place, or loads from it; to tells where that is.
func (u *unit) leading(i api.Instr, to func() (int, api.Errno)) item {
	x := item{size: halfWord, upTo: 1, align: halfWord}
	x.bytes = func(at, size int) ([]byte, api.Errno) {
		place, err := to()
		if err != api.OK {
			return nil, err
		}
		if size == long {
			return longBranch(i.Op, at, place)
		}
		whole, err := led(i, at, place)
		if err != api.OK {
			return nil, err
		}
		return encoded(whole)
	}
	if _, shape := isa.Info(i.Op); shape == api.ShapeNear {
		x.far = func(at int) bool {
			place, err := to()
			return err == api.OK && !near(at, place)
		}
	}
	return x
}

// led answers the instruction of a place with the number that leads it to another one: ErrAlign, if there is no such number.
func led(i api.Instr, at, to int) (api.Instr, api.Errno) {
	_, shape := isa.Info(i.Op)
	n, step := away(shape, at, to)
	if n%step != 0 {
		return api.Instr{}, api.ErrAlign
	}
	i.Imm = n / step
	return i, api.OK
}

// longBranch answers the bytes of bt or bf that lead far: the other one of them leads around a bra.
func longBranch(op, at, to int) ([]byte, api.Errno) {
	other := api.OpBt
	if op == api.OpBt {
		other = api.OpBf
	}
	bra, err := led(api.Instr{Op: api.OpBra}, at+halfWord, to)
	if err != api.OK {
		return nil, err
	}
	return encoded(api.Instr{Op: other, Imm: 1}, bra, api.Instr{Op: api.OpNop})
}

// encoded answers instructions one behind the other: ErrRange, if one leads too far.
func encoded(l ...api.Instr) ([]byte, api.Errno) {
	var out []byte
	for _, i := range l {
		w, err := isa.Encode(i)
		if err != api.OK {
			return nil, err
		}
		out = append(out, isa.Put(make([]byte, halfWord), 0, halfWord, w)...)
	}
	return out, api.OK
}
