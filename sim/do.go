package sim

import (
	"platelayer/api"
	"platelayer/dis"
	"platelayer/isa"
)

const (
	halfWord = 2 // bytes of an instruction
	word     = 4
)

// there answers which of an image's bytes the first one of size at that place is: false, if not all of them are there.
func there(i api.Image, at, size int) (int, bool) {
	first := at - i.Base
	return first, at%size == 0 && first >= 0 && first <= len(i.Bytes)-size
}

// instruction answers the one at that place.
func instruction(i api.Image, at int) (api.Instr, api.Errno) {
	first, ok := there(i, at, halfWord)
	if !ok {
		return api.Instr{}, api.ErrNone
	}
	return isa.Decode(isa.Get(i.Bytes, first, halfWord))
}

// do does an instruction at that place, one that leads nowhere.
func do(m *api.Machine, i api.Instr, at int) api.Errno {
	switch i.Op {
	case api.OpLoadW:
		return load(m, i, at, halfWord)
	case api.OpLoadL:
		return load(m, i, at, word)
	case api.OpGet:
		return get(m, i.N, m.R[i.M], word)
	case api.OpPut:
		return put(m, m.R[i.N], m.R[i.M])
	case api.OpTrap:
		m.Told = append(m.Told, m.R[0])
	case api.OpTst, api.OpEq, api.OpGt:
		m.T = holds(i.Op, m.R[i.N], m.R[i.M])
	case api.OpShll, api.OpShlr, api.OpDt:
		m.R[i.N], m.T = moved(i.Op, m.R[i.N])
	default:
		m.R[i.N] = made(i, m.R[i.N], m.R[i.M])
	}
	return api.OK
}

// load gets size bytes from where an instruction at that place says, counted from there: behind a branch too.
func load(m *api.Machine, i api.Instr, at, size int) api.Errno {
	to, _ := dis.To(i, at)
	return get(m, i.N, to, size)
}

// get puts what size bytes at that place are into register n, below 0 if the highest bit is 1.
func get(m *api.Machine, n, at, size int) api.Errno {
	first, ok := there(m.Image, at, size)
	if !ok {
		return api.ErrRange
	}
	above := 8 * (word - size) // bits that a word has more
	m.R[n] = isa.Signed(isa.Get(m.Image.Bytes, first, size)<<above) >> above
	return api.OK
}

// put writes a word to that place of the machine's own image: no more than that is copied.
func put(m *api.Machine, at, n int) api.Errno {
	first, ok := there(m.Image, at, word)
	if !ok {
		return api.ErrRange
	}
	copy(m.Image.Bytes[first:], isa.Put(make([]byte, word), 0, word, n))
	return api.OK
}

// holds is what an op that looks at two registers tells of them.
func holds(op, n, m int) bool {
	switch op {
	case api.OpTst:
		return n&m == 0
	case api.OpEq:
		return n == m
	}
	return n > m // OpGt
}

// moved answers what comes of one register by an op that tells something of it, too.
func moved(op, n int) (int, bool) {
	switch op {
	case api.OpShll:
		return isa.Signed(2 * n), n < 0
	case api.OpShlr:
		return int(uint32(n) >> 1), n&1 == 1
	}
	less := isa.Signed(n - 1) // OpDt
	return less, less == 0
}

// made answers what comes of register n by an instruction that makes it of numbers.
func made(i api.Instr, n, m int) int {
	switch i.Op {
	case api.OpMovI:
		return i.Imm
	case api.OpAddI:
		return isa.Signed(n + i.Imm)
	case api.OpMov:
		return m
	case api.OpAdd:
		return isa.Signed(n + m)
	case api.OpSub:
		return isa.Signed(n - m)
	case api.OpAnd:
		return n & m
	case api.OpOr:
		return n | m
	case api.OpXor:
		return n ^ m
	}
	return n // OpNop
}
