package farm

import (
	"platelayer/api"
	"platelayer/asm"
	"platelayer/obj"
	"platelayer/wire"
)

// send lays a message on the way; one that can't be written, as its turn is too great, is lost.
func send(f *api.Farm, m api.Msg) {
	if b, err := wire.Bytes(m); err == api.OK {
		put(f, b)
	}
}

// come hands a message to whom it is for; nothing is done with what is none.
func come(f *api.Farm, b []byte) {
	m, err := wire.Parse(b)
	if err != api.OK || m.Unit >= len(f.Jobs) {
		return
	}
	if m.Kind == api.MsgLease {
		work(f, m)
		return
	}
	end(&f.Jobs[m.Unit], m)
}

// work lets a lease's worker, if it lives, build what it was sent, and send that back.
func work(f *api.Farm, m api.Msg) {
	if m.Worker < len(f.Dead) && !f.Dead[m.Worker] {
		send(f, answer(m))
	}
}

// answer is what a worker sends back: an object, or the fault; an object that has no bytes is too much.
func answer(m api.Msg) api.Msg {
	out := api.Msg{Kind: api.MsgFault, Worker: m.Worker, Unit: m.Unit, Turn: m.Turn}
	o, fault := asm.Unit(m.Data)
	if fault.Err != api.OK {
		out.Fault = fault
		return out
	}
	b, err := obj.Bytes(o)
	if err != api.OK {
		out.Fault = api.Fault{Err: api.ErrMuch}
		return out
	}
	out.Kind, out.Data = api.MsgObject, b
	return out
}

// end makes a job Done with what came back. A lease that is over counts too, as whoever builds a source builds the same; what comes
// for one that was never given does not.
func end(j *api.Job, m api.Msg) {
	if j.Done || j.Turn < m.Turn || j.Turn == 0 {
		return
	}
	j.Done, j.Worker, j.Wait = true, nobody, 0
	j.Object, j.Fault = m.Data, m.Fault
}
