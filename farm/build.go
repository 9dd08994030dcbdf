package farm

import (
	"platelayer/api"
	"platelayer/asm"
	"platelayer/link"
	"platelayer/obj"
)

// Build answers the image that comes of sources, which one alone builds, or the first fault, at the source's number.
func Build(l [][]byte, base int) (api.Image, api.Fault) {
	var out []api.Object
	for k, source := range l {
		o, err := built(source)
		if err != api.OK {
			return api.Image{}, api.Fault{Err: err, At: k}
		}
		out = append(out, o)
	}
	return link.Link(out, base)
}

// built answers the object of a source.
func built(source []byte) (api.Object, api.Errno) {
	o, fault := asm.Unit(source)
	if fault.Err != api.OK {
		return api.Object{}, fault.Err
	}
	if err := obj.Wrong(o); err != api.OK {
		return api.Object{}, err
	}
	return o, api.OK
}
