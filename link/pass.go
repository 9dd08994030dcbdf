package link

import (
	"platelayer/api"
	"platelayer/isa"
)

// halfWord is the Size of relocs that not every place fits in.
const halfWord = 2

// What fits in a half word, with a sign or without one.
const (
	minHalf = -1 << 15
	maxHalf = 1<<16 - 1
)

// laying answers the pass that adds an object's bytes and names to an image, and keeps where these are: ErrName, if one is there already.
func laying(out *api.Image, places map[string]int) pass {
	return func(o api.Object, at int) api.Errno {
		noughts := make([]byte, at-out.Base-len(out.Bytes))
		out.Bytes = append(append(out.Bytes, noughts...), o.Code...)
		for _, s := range o.Syms {
			if _, taken := places[s.Name]; taken {
				return api.ErrName
			}
			places[s.Name] = at + s.At
			out.Syms = append(out.Syms, api.Sym{Name: s.Name, At: at + s.At})
		}
		return api.OK
	}
}

// telling answers the pass that puts what an object's relocs ask for into an image in which all is laid.
func telling(out *api.Image, places map[string]int) pass {
	return func(o api.Object, at int) api.Errno {
		for _, r := range o.Relocs {
			n, err := asked(r, at, places)
			if err != api.OK {
				return err
			}
			// Put copies what it is handed: no more than the reloc's own bytes is worth that.
			from := at - out.Base + r.At
			b := out.Bytes[from : from+r.Size]
			copy(b, isa.Put(b, 0, r.Size, n))
		}
		return api.OK
	}
}

// asked answers the number of a reloc in an object of that base: ErrNone, if there is no such name; ErrRange, if it does not fit.
func asked(r api.Reloc, base int, places map[string]int) (int, api.Errno) {
	place, known := base, true
	if r.Name != "" {
		place, known = places[r.Name]
	}
	if !known {
		return 0, api.ErrNone
	}
	n := isa.Signed(place + r.Add)
	if r.Size == halfWord && (n < minHalf || n > maxHalf) {
		return 0, api.ErrRange
	}
	return n, api.OK
}
