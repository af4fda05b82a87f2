// Package net: nets: see doc/02-net.md.
package net

import "linchpin/api"

// Check: OK, or the first error of the chapter's list that applies.
func Check(n api.Net) api.Errno { return firstFault(n) }

// Begin: of each register Yes, if it begins so, else No.
func Begin(n api.Net) ([]int, api.Errno) {
	if e := Check(n); e != api.OK {
		return nil, e
	}
	values := make([]int, len(n.Regs))
	for i, r := range n.Regs {
		values[i] = api.No
		if r.Begin {
			values[i] = api.Yes
		}
	}
	return values, api.OK
}

// Needs: of each gate: is it one of l, or an arg of one that is needed?
func Needs(n api.Net, l []int) ([]bool, api.Errno) {
	if e := Check(n); e != api.OK {
		return nil, e
	}
	for _, k := range l {
		if !isGate(n, k) {
			return nil, api.ErrRange
		}
	}
	needed := make([]bool, len(n.Gates))
	need(n.Gates, needed, l)
	return needed, api.OK
}

// need marks each gate ahead of its args, so that a ring of gates is gone
// round only once.
func need(gates []api.Gate, needed []bool, l []int) {
	for _, k := range l {
		if !needed[k] {
			needed[k] = true
			need(gates, needed, gates[k].Args)
		}
	}
}

// firstFault asks each kind of error of the whole net ahead of the next kind,
// since the first kind that applies is the answer.
func firstFault(n api.Net) (fault api.Errno) {
	defer func() {
		if left := recover(); left != nil {
			fault = left.(api.Errno)
		}
	}()
	requireCounts(n)
	requireNumbers(n)
	requireKinds(n)
	requireForms(n)
	return api.OK
}

// require leaves firstFault from however deep a rule is broken.
func require(holds bool, fault api.Errno) {
	if !holds {
		panic(fault)
	}
}

func requireCounts(n api.Net) {
	require(n.Ins <= api.MaxIns, api.ErrMany)
	require(len(n.Gates) <= api.MaxGates, api.ErrMany)
	require(len(n.Regs) <= api.MaxRegs, api.ErrMany)
	require(len(n.Outs) <= api.MaxOuts, api.ErrMany)
	for _, g := range n.Gates {
		require(len(g.Args) <= api.MaxArgs, api.ErrMany)
	}
}

func requireNumbers(n api.Net) {
	require(n.Ins >= 0, api.ErrRange)
	for _, r := range n.Regs {
		require(isGate(n, r.Next), api.ErrRange)
	}
	for _, k := range n.Outs {
		require(isGate(n, k), api.ErrRange)
	}
	for _, g := range n.Gates {
		for _, k := range g.Args {
			require(isGate(n, k), api.ErrRange)
		}
	}
}

func requireKinds(n api.Net) {
	for _, g := range n.Gates {
		require(g.Kind >= api.Never && g.Kind <= api.Not, api.ErrKind)
	}
}

func requireForms(n api.Net) {
	for _, g := range n.Gates {
		require(numberFits(n, g), api.ErrForm)
		require(argsFit(g), api.ErrForm)
	}
}

func numberFits(n api.Net, g api.Gate) bool {
	switch g.Kind {
	case api.In:
		return isBelow(g.N, n.Ins)
	case api.Reg:
		return isBelow(g.N, len(n.Regs))
	}
	return g.N == 0
}

func argsFit(g api.Gate) bool {
	switch g.Kind {
	case api.Never, api.Always, api.In, api.Reg:
		return len(g.Args) == 0
	case api.Not:
		return len(g.Args) == 1
	}
	return true
}

func isGate(n api.Net, k int) bool { return isBelow(k, len(n.Gates)) }

// isBelow: things are numbered from 0 on.
func isBelow(k, count int) bool { return k >= 0 && k < count }
