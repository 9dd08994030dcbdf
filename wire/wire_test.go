package wire_test

import (
	"fmt"
	"math"
	"slices"
	"testing"

	"platelayer/api"
	"platelayer/wire"
)

// lease, object and fault are messages of each kind, in which nothing is wrong.
func lease() api.Msg {
	return api.Msg{Kind: api.MsgLease, Worker: 2, Unit: 3, Turn: 300, Data: []byte("nop")}
}

func object() api.Msg {
	return api.Msg{Kind: api.MsgObject, Worker: 1, Unit: 2, Turn: 1, Data: []byte{0, 0xff, 0, 9}}
}

func fault() api.Msg {
	return api.Msg{Kind: api.MsgFault, Worker: 1, Unit: 1, Turn: 65535, Fault: api.Fault{Err: api.ErrMuch, At: 7}}
}

// same is whether two messages are, nil and data without bytes being the same.
func same(a, b api.Msg) bool {
	return a.Kind == b.Kind && a.Worker == b.Worker && a.Unit == b.Unit && a.Turn == b.Turn && a.Fault == b.Fault && slices.Equal(a.Data, b.Data)
}

// told is a message in few words.
func told(m api.Msg) string {
	return fmt.Sprintf("{%d %d %d %d %v %d bytes: %.40q}", m.Kind, m.Worker, m.Unit, m.Turn, m.Fault, len(m.Data), m.Data)
}

// hold fails if Wrong is not err, or Bytes is not likewise.
func hold(t *testing.T, m api.Msg, err api.Errno) {
	t.Helper()
	if got := wire.Wrong(m); got != err {
		t.Errorf("Wrong(%s) is %v, not %v", told(m), got, err)
	}
	b, got := wire.Bytes(m)
	if got != err || (len(b) == 0) != (err != api.OK) {
		t.Errorf("Bytes(%s) is %.40q %v, not of error %v", told(m), b, got, err)
	}
}

// holdEach fails if a message of any kind, changed so, has not that error.
func holdEach(t *testing.T, err api.Errno, change func(m *api.Msg)) {
	t.Helper()
	for _, m := range []api.Msg{lease(), object(), fault()} {
		change(&m)
		hold(t, m, err)
	}
}

// within is OK of numbers from 0 to below end, and err of others.
func within(n, end int, err api.Errno) api.Errno {
	if n >= 0 && n < end {
		return api.OK
	}
	return err
}

// odd is numbers at edges, and ones that would be others in fewer bits.
var odd = []int{
	math.MinInt, math.MinInt + 1, -1 << 32, -1<<32 + 1, -1 << 31, -65536, -65535, -256, -255, -2, -1, 0, 1, 2, 3, 4, 5, 13, 14, 15, 16, 254,
	255, 256, 257, 258, 259, 260, 65534, 65535, 65536, 65537, 1<<31 - 1, 1 << 31, 1 << 32, 1<<32 + 1, 1<<32 + 3, math.MaxInt - 1, math.MaxInt,
}

func TestJ1WrongOfKinds(t *testing.T) {
	for _, n := range odd {
		m := api.Msg{Kind: n}
		switch n {
		case 1, 2:
			hold(t, m, api.OK)
		case 3:
			hold(t, m, api.ErrFit)
			m.Fault.Err = api.ErrKind
			hold(t, m, api.OK)
		default:
			holdEach(t, api.ErrKind, func(m *api.Msg) { m.Kind = n })
			hold(t, m, api.ErrKind)
		}
	}
}

func TestJ1WrongOfRanges(t *testing.T) {
	for _, n := range odd {
		holdEach(t, within(n, 3, api.ErrRange), func(m *api.Msg) { m.Worker = n })
		holdEach(t, within(n, 4, api.ErrRange), func(m *api.Msg) { m.Unit = n })
		holdEach(t, within(n, 65536, api.ErrRange), func(m *api.Msg) { m.Turn = n })
	}
}

func TestJ1WrongOfFaults(t *testing.T) {
	for _, n := range odd {
		m := fault()
		m.Fault.At = n
		hold(t, m, within(n, 65536, api.ErrFit))
		m = fault()
		m.Fault.Err = api.Errno(n)
		hold(t, m, within(n-1, 14, api.ErrFit)) // n-1 of the least number is the greatest one
		for _, m := range []api.Msg{lease(), object(), {Kind: api.MsgLease}, {Kind: api.MsgObject}} {
			m.Fault.Err = api.Errno(n)
			hold(t, m, within(n, 1, api.ErrFit))
			m.Fault = api.Fault{At: n}
			hold(t, m, within(n, 1, api.ErrFit))
			m.Fault = api.Fault{Err: api.ErrBusy, At: n}
			hold(t, m, api.ErrFit)
		}
	}
}

func TestJ1WrongOfData(t *testing.T) {
	for _, c := range []struct {
		n                    int
		lease, object, fault api.Errno
	}{
		{0, api.OK, api.OK, api.OK},
		{1, api.OK, api.OK, api.ErrFit},
		{255, api.OK, api.OK, api.ErrFit},
		{65536, api.OK, api.OK, api.ErrFit},
		{1<<20 - 1, api.OK, api.OK, api.ErrFit},
		{1 << 20, api.OK, api.OK, api.ErrFit},
		{1<<20 + 1, api.ErrMuch, api.ErrMuch, api.ErrFit},
		{1 << 24, api.ErrMuch, api.ErrMuch, api.ErrFit},
	} {
		for _, x := range []struct {
			m   api.Msg
			err api.Errno
		}{{lease(), c.lease}, {object(), c.object}, {fault(), c.fault}} {
			x.m.Data = make([]byte, c.n)
			hold(t, x.m, x.err)
		}
	}
	holdEach(t, api.OK, func(m *api.Msg) { m.Data = nil })
	holdEach(t, api.OK, func(m *api.Msg) { m.Data = []byte{} })
}

func TestJ1WrongInItsOrder(t *testing.T) {
	much := make([]byte, 1<<20+1)
	for _, c := range []struct {
		m   api.Msg
		err api.Errno
	}{
		{api.Msg{Kind: 4, Worker: 3, Fault: api.Fault{Err: 99}, Data: much}, api.ErrKind},
		{api.Msg{Kind: 0, Turn: -1}, api.ErrKind},
		{api.Msg{Kind: 4, Data: much}, api.ErrKind},
		{api.Msg{Kind: 1, Worker: 3, Fault: api.Fault{Err: 1}, Data: much}, api.ErrRange},
		{api.Msg{Kind: 2, Unit: 4, Fault: api.Fault{At: 1}}, api.ErrRange},
		{api.Msg{Kind: 3, Turn: 65536}, api.ErrRange},
		{api.Msg{Kind: 3, Unit: -1, Fault: api.Fault{Err: 1}, Data: []byte{0}}, api.ErrRange},
		{api.Msg{Kind: 1, Turn: -1, Data: much}, api.ErrRange},
		{api.Msg{Kind: 1, Fault: api.Fault{At: -1}, Data: much}, api.ErrFit},
		{api.Msg{Kind: 2, Fault: api.Fault{Err: 1}, Data: much}, api.ErrFit},
		{api.Msg{Kind: 3, Fault: api.Fault{Err: 1}, Data: much}, api.ErrFit},
		{api.Msg{Kind: 1, Data: much}, api.ErrMuch},
		{api.Msg{Kind: 2, Data: much}, api.ErrMuch},
		{api.Msg{}, api.ErrKind},
	} {
		hold(t, c.m, c.err)
	}
}

func TestJ1WrongAndBytesOnlyRead(t *testing.T) {
	room := []byte("nop and more")
	m := lease()
	m.Data = room[:3]
	hold(t, m, api.OK)
	b, _ := wire.Bytes(m)
	again := slices.Clone(b)
	if string(room) != "nop and more" {
		t.Errorf("what was handed in is %q now", room)
	}
	spoil(m.Data)
	if !slices.Equal(b, again) {
		t.Errorf("bytes are %q behind a change of what was handed in, not %q", b, again)
	}
	copy(room, "nop and more")
	spoil(b)
	if string(room) != "nop and more" {
		t.Errorf("what was handed in is %q behind a change of the bytes", room)
	}
	if more, _ := wire.Bytes(m); !slices.Equal(more, again) {
		t.Errorf("Bytes is %q the second time, not %q", more, again)
	}
}

// spoil changes all bytes, those of the spare room too.
func spoil(b []byte) {
	for i := range b[:cap(b)] {
		b[:cap(b)][i] ^= 0xff
	}
}
