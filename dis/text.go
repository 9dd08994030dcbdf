package dis

import (
	"strconv"
	"strings"

	"platelayer/api"
	"platelayer/isa"
)

// Text answers bytes as lines: put together again, they are the same bytes.
func Text(b []byte) string {
	named := goals(b)
	var out strings.Builder
	each(b, func(at int, i api.Instr, told bool) {
		if named[at/halfWord] {
			out.WriteString(place(at) + ":\n")
		}
		if told {
			out.WriteString(Line(i, at) + "\n")
		} else {
			out.WriteString(data(b, at) + "\n")
		}
	})
	return out.String()
}

// goals answers, half word by half word, whether an instruction leads there. Instructions lead to even places alone, so that none is
// within a half word.
func goals(b []byte) []bool {
	out := make([]bool, (len(b)+halfWord-1)/halfWord)
	each(b, func(at int, i api.Instr, told bool) {
		if to, leads := To(i, at); told && leads {
			out[to/halfWord] = true
		}
	})
	return out
}

// each goes through b half word by half word, a last byte alone too: do is handed the place, and the instruction, if one is told there.
func each(b []byte, do func(at int, i api.Instr, told bool)) {
	for at := 0; at < len(b); at += halfWord {
		i, told := instruction(b, at)
		do(at, i, told)
	}
}

// instruction answers the one that is told at a place: false, if there is none, or it leads to where nothing is that could have a name.
func instruction(b []byte, at int) (api.Instr, bool) {
	if alone(b, at) {
		return api.Instr{}, false
	}
	i, err := isa.Decode(isa.Get(b, at, halfWord))
	if err != api.OK {
		return api.Instr{}, false
	}
	if to, leads := To(i, at); leads && (to < 0 || to >= len(b)) {
		return api.Instr{}, false
	}
	return i, true
}

// data answers the line of what is no instruction.
func data(b []byte, at int) string {
	if alone(b, at) {
		return ".byte " + strconv.Itoa(isa.Get(b, at, 1))
	}
	return ".word " + strconv.Itoa(isa.Get(b, at, halfWord))
}

// alone answers whether at is the place of a last byte that is half of a half word.
func alone(b []byte, at int) bool { return at == len(b)-1 }
