// Package hold: what is handed in of registers and inputs, and what a gate's value is by it.
package hold

import (
	"linchpin/api"
	"linchpin/net"
	"linchpin/row"
	"linchpin/tern"
)

// Holder has what is handed in, which with the other gates' values tells that
// of a gate.
type Holder struct {
	regs, ins []int
}

// Of: the holder of these; or the error of the net, of how many they are, or of what they are.
func Of(n api.Net, regs, ins []int) (Holder, api.Errno) {
	if e := net.Check(n); e != api.OK {
		return Holder{}, e
	}
	if len(regs) != len(n.Regs) || len(ins) != n.Ins {
		return Holder{}, api.ErrForm
	}
	if e := tern.Check(regs); e != api.OK {
		return Holder{}, e
	}
	if e := tern.Check(ins); e != api.OK {
		return Holder{}, e
	}
	return Holder{regs, ins}, api.OK
}

// Value of a gate of that net, if its gates have those of v.
func (h Holder) Value(g api.Gate, v []int) int {
	switch g.Kind {
	case api.Never:
		return api.No
	case api.Always:
		return api.Yes
	case api.In:
		return h.ins[g.N]
	case api.Reg:
		return h.regs[g.N]
	}
	return ofArgs(g.Kind, row.Pick(v, g.Args))
}

// ofArgs leaves the errors of package tern out: it is handed nothing but values.
func ofArgs(kind int, args []int) int {
	told := api.Open
	switch kind {
	case api.All:
		told, _ = tern.All(args)
	case api.Any:
		told, _ = tern.Any(args)
	case api.Not:
		told, _ = tern.Not(args[0])
	}
	return told
}
