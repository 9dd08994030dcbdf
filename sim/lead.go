package sim

import (
	"platelayer/api"
	"platelayer/dis"
	"platelayer/isa"
)

// lead has a machine go to where the instruction that it stands at leads.
func lead(m *api.Machine, i api.Instr) api.Errno {
	// It is told ahead of all else: the instruction behind may change the register.
	to := goal(m, i)
	switch i.Op {
	case api.OpBt, api.OpBf:
		if m.T != (i.Op == api.OpBt) {
			to = behind(m.PC, halfWord)
		}
		m.PC = to
		return api.OK
	case api.OpBsr, api.OpJsr:
		m.PR = behind(m.PC, 2*halfWord)
	}
	if err := between(m, behind(m.PC, halfWord)); err != api.OK {
		return err
	}
	m.PC = to
	return api.OK
}

// goal answers where an instruction that a machine stands at leads.
func goal(m *api.Machine, i api.Instr) int {
	switch i.Op {
	case api.OpRts:
		return m.PR
	case api.OpJmp, api.OpJsr:
		return m.R[i.N]
	}
	to, _ := dis.To(i, m.PC)
	return isa.Signed(to)
}

// between does the instruction at that place, ahead of the machine's going elsewhere.
func between(m *api.Machine, at int) api.Errno {
	i, err := instruction(m.Image, at)
	if err != api.OK {
		return err
	}
	if leads(i.Op) || i.Op == api.OpTrap {
		return api.ErrFit
	}
	return do(m, i, at)
}
