package farm

import (
	"runtime"
	"testing"

	"platelayer/api"
)

func TestK1BuildTakesNoRoomForWhatIsTooMuch(t *testing.T) {
	const many, size = 64, 1 << 20
	held := func() int {
		runtime.GC()
		var m runtime.MemStats
		runtime.ReadMemStats(&m)
		return int(m.HeapAlloc)
	}
	before, behind := held(), 0
	_, f := linked(many, 0, func(k int) (api.Object, api.Errno) {
		if k == many-1 {
			behind = held()
		}
		return api.Object{Code: make([]byte, size)}, api.OK
	})
	if f != (api.Fault{Err: api.ErrMany}) {
		t.Errorf("%d units have fault %v", many, f)
	}
	if n := behind - before; n > many*size/4 {
		t.Errorf("of %d units %d bytes are kept", many, n)
	}
}
