package farm

import (
	"platelayer/api"
	"platelayer/asm"
	"platelayer/link"
	"platelayer/obj"
)

// Build answers the image that comes of sources, which one alone builds, or the first fault, at the source's number.
func Build(l [][]byte, base int) (api.Image, api.Fault) {
	return linked(len(l), base, func(k int) (api.Object, api.Errno) { return built(l[k]) })
}

// linked answers the image of so many units, whose objects are told one by one, or the first one's error, at its number.
func linked(units, base int, object func(k int) (api.Object, api.Errno)) (api.Image, api.Fault) {
	var out []api.Object
	for k := range units {
		o, err := object(k)
		if err != api.OK {
			return api.Image{}, api.Fault{Err: err, At: k}
		}
		// One more than may be linked is enough to be too many: the others need no room.
		if len(out) <= api.MaxUnits {
			out = append(out, o)
		}
	}
	return link.Link(out, base)
}

// built answers the object of a source.
func built(source []byte) (api.Object, api.Errno) {
	o, fault := asm.Unit(source)
	if fault.Err != api.OK {
		return api.Object{}, fault.Err
	}
	if err := obj.Wrong(o); err != api.OK {
		return api.Object{}, err
	}
	return o, api.OK
}
