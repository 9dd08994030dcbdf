package wire

import (
	"platelayer/api"
	"platelayer/isa"
)

// Which number stands where ahead of the data.
const (
	ofKind = iota
	ofWorker
	ofUnit
	ofTurn
	ofErr
	ofAt
	ofData // how many bytes of it there are
	headNumbers
)

// widths is how many bytes each of these numbers has.
var widths = [headNumbers]int{ofKind: 1, ofWorker: 1, ofUnit: 1, ofTurn: 2, ofErr: 1, ofAt: 2, ofData: 4}

// head is these numbers of a message.
type head [headNumbers]int

// How many bytes there are ahead of the data, which is what widths come to, and behind it.
const (
	headSize = 12
	sumSize  = 2
)

// sumEnd is what sums are below. It is a prime, so that bytes of which one alone is changed have another sum.
const sumEnd = 65521

// Bytes answers a message as bytes, or what is Wrong with it.
func Bytes(m api.Msg) ([]byte, api.Errno) {
	if err := Wrong(m); err != api.OK {
		return nil, err
	}
	out := make([]byte, 0, headSize+len(m.Data)+sumSize)
	h := head{
		ofKind: m.Kind, ofWorker: m.Worker, ofUnit: m.Unit, ofTurn: m.Turn,
		ofErr: int(m.Fault.Err), ofAt: m.Fault.At, ofData: len(m.Data),
	}
	for k, size := range widths {
		out = number(out, size, h[k])
	}
	out = append(out, m.Data...)
	return number(out, sumSize, sum(out)), api.OK
}

func number(out []byte, size, n int) []byte {
	return append(out, isa.Put(make([]byte, size), 0, size, n)...)
}

func sum(b []byte) int {
	n := 1
	for _, x := range b {
		n = (31*n + int(x) + 1) % sumEnd
	}
	return n
}

// Parse answers the message of what Bytes writes: ErrForm, if it has another length or sum; what is Wrong with it.
func Parse(b []byte) (api.Msg, api.Errno) {
	h := readHead(b)
	if len(b) != headSize+h[ofData]+sumSize {
		return api.Msg{}, api.ErrForm
	}
	end := len(b) - sumSize
	if sum(b[:end]) != isa.Get(b, end, sumSize) {
		return api.Msg{}, api.ErrForm
	}
	m := h.message(b[headSize:end])
	if err := Wrong(m); err != api.OK {
		return api.Msg{}, err
	}
	// The data is still a piece of b: only what is not wrong, and so not long, is worth a copy.
	m.Data = append([]byte(nil), m.Data...)
	return m, api.OK
}

// readHead answers the numbers that b begins with; of too few bytes, which their length alone tells, the others are 0.
func readHead(b []byte) head {
	var out head
	at := 0
	for k, size := range widths {
		out[k] = isa.Get(b, at, size)
		at += size
	}
	return out
}

func (h head) message(data []byte) api.Msg {
	return api.Msg{
		Kind:   h[ofKind],
		Worker: h[ofWorker],
		Unit:   h[ofUnit],
		Turn:   h[ofTurn],
		Fault:  api.Fault{Err: api.Errno(h[ofErr]), At: h[ofAt]},
		Data:   data,
	}
}
