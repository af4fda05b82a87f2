// Package sample: nets and programs that the tests of several packages ask about. No layer leans on it.
package sample

import (
	"slices"

	"linchpin/api"
)

// Knot: ten gates of every kind but Always, one register, which input 0 turns; 7 and 8 hang on each other.
func Knot() api.Net {
	return api.Net{
		Ins: 1,
		Gates: []api.Gate{
			{Kind: api.In},
			{Kind: api.Reg},
			{Kind: api.Not, Args: []int{1}},
			{Kind: api.Not, Args: []int{0}},
			{Kind: api.All, Args: []int{0, 2}},
			{Kind: api.All, Args: []int{3, 1}},
			{Kind: api.Any, Args: []int{4, 5}},
			{Kind: api.Any, Args: []int{6, 8}},
			{Kind: api.All, Args: []int{7, 9}},
			{Kind: api.Never},
		},
		Regs: []api.Store{{Next: 6}},
		Outs: []int{7, 1},
	}
}

// Chain: the knot without its ring: 8 hangs on 9 alone, so that the order is 0 to 6, 9, 8, 7.
func Chain() api.Net {
	n := Knot()
	n.Gates[8].Args = []int{9}
	return n
}

// Loose: gates 1 and 2 hang on each other, and stay Open without input 0.
func Loose() api.Net {
	return api.Net{
		Ins: 1,
		Gates: []api.Gate{
			{Kind: api.In},
			{Kind: api.Any, Args: []int{0, 2}},
			{Kind: api.All, Args: []int{1}},
		},
		Outs: []int{1},
	}
}

// Fault is a net that may not be, and the error that it has.
type Fault struct {
	Net api.Net
	Err api.Errno
}

// Faults: of each kind of error the knot with one thing changed, and with one of each kind that is told behind it.
func Faults() []Fault {
	many, odd, kind, shape := Knot(), Knot(), Knot(), Knot()
	many.Outs = make([]int, api.MaxOuts+1)
	odd.Regs[0].Next = len(odd.Gates)
	kind.Gates[4].Kind = api.Not + 1
	shape.Gates[9].Args = []int{0}
	all := Knot()
	all.Outs, all.Regs, all.Gates[4], all.Gates[9] = many.Outs, odd.Regs, kind.Gates[4], shape.Gates[9]
	return []Fault{{many, api.ErrMany}, {odd, api.ErrRange}, {kind, api.ErrKind}, {shape, api.ErrForm}, {all, api.ErrMany}}
}

// Play: A, once x is there, beside a pause and B; a pause behind both; then C, if A was put out, else a halt.
func Play() []api.Node {
	return []api.Node{
		{Kind: api.Seq},
		{Kind: api.Par},
		{Kind: api.Seq},
		{Kind: api.Await, Sig: 0},
		{Kind: api.Emit, Sig: 0},
		{Kind: api.Seq},
		{Kind: api.Pause},
		{Kind: api.Emit, Sig: 1},
		{Kind: api.Seq},
		{Kind: api.Pause},
		{Kind: api.Was, Sig: 0},
		{Kind: api.Emit, Sig: 2},
		{Kind: api.Halt},
	}
}

// NoProgram is a list that is no program, and the error that it has.
type NoProgram struct {
	Nodes []api.Node
	Err   api.Errno
}

// NoPrograms: of each kind of error the play with one thing changed, and with one of each kind that is told behind it.
func NoPrograms() []NoProgram {
	kind, sig, shape, all := Play(), Play(), Play(), Play()
	kind[3].Kind = api.Was + 1
	sig[0].Sig = 1
	shape[3] = api.Node{Kind: api.Par}
	all[0].Sig, all[3].Kind = 1, -1
	all = append(all, all[12], all[12])
	return []NoProgram{
		{nil, api.ErrForm},
		{Play()[:12], api.ErrForm},
		{append(Play(), api.Node{}), api.ErrForm},
		{shape, api.ErrForm},
		{sig, api.ErrRange},
		{append(sig, api.Node{}), api.ErrRange},
		{kind, api.ErrKind},
		{all[:14], api.ErrKind},
		{append(Play(), api.Node{}, api.Node{}), api.ErrMany},
		{all, api.ErrMany},
	}
}

// Leaves: all nodes without parts.
func Leaves() []api.Node {
	l := []api.Node{{Kind: api.Nothing}, {Kind: api.Pause}, {Kind: api.Halt}}
	for sig := range api.MaxOuts {
		l = append(l, api.Node{Kind: api.Emit, Sig: sig})
	}
	for sig := range api.MaxIns {
		l = append(l, api.Node{Kind: api.Await, Sig: sig})
	}
	return l
}

// Forks: all nodes with parts.
func Forks() []api.Node {
	l := []api.Node{{Kind: api.Seq}, {Kind: api.Par}}
	for sig := range api.MaxIns {
		l = append(l, api.Node{Kind: api.If, Sig: sig})
	}
	for sig := range api.MaxOuts {
		l = append(l, api.Node{Kind: api.Was, Sig: sig})
	}
	return l
}

// Draw tells numbers that look as if they were drawn, the same each time.
type Draw uint64

// Below: the next number, from 0 to n - 1.
func (d *Draw) Below(n int) int {
	*d = *d*6364136223846793005 + 1442695040888963407
	return int(uint64(*d) >> 33 % uint64(n))
}

// Values: so many values, each below n.
func (d *Draw) Values(count, n int) []int {
	l := make([]int, count)
	for k := range l {
		l[k] = d.Below(n)
	}
	return l
}

// Net: a net of so many inputs, registers and gates, which hang on one another in any way.
func (d *Draw) Net(ins, regs, gates int) api.Net {
	n := api.Net{Ins: ins, Gates: make([]api.Gate, gates), Outs: d.Values(d.Below(api.MaxOuts+1), gates)}
	for k := range n.Gates {
		n.Gates[k] = d.gate(ins, regs, gates)
	}
	for range regs {
		n.Regs = append(n.Regs, api.Store{Begin: d.Below(2) == 0, Next: d.Below(gates)})
	}
	return n
}

// Ordered: a net in which nothing hangs on itself; where each gate stands in the order is drawn.
func (d *Draw) Ordered(ins, regs, gates int) api.Net {
	n := d.Net(ins, regs, gates)
	var order []int
	for k := range gates {
		order = slices.Insert(order, d.Below(k+1), k)
	}
	for i, k := range order {
		g := d.gate(ins, regs, max(1, i))
		if i == 0 && len(g.Args) > 0 {
			g = api.Gate{Kind: api.Always}
		}
		for j, ahead := range g.Args {
			g.Args[j] = order[ahead]
		}
		n.Gates[k] = g
	}
	return n
}

// Words: so many words, any of them.
func (d *Draw) Words(count int) []uint64 {
	l := make([]uint64, count)
	for k := range l {
		l[k] = uint64(d.Below(1<<22))<<44 | uint64(d.Below(1<<22))<<22 | uint64(d.Below(1<<22))
	}
	return l
}

func (d *Draw) gate(ins, regs, gates int) api.Gate {
	switch kind := d.Below(api.Not + 1); {
	case kind == api.In && ins > 0:
		return api.Gate{Kind: kind, N: d.Below(ins)}
	case kind == api.Reg && regs > 0:
		return api.Gate{Kind: kind, N: d.Below(regs)}
	case kind == api.All || kind == api.Any:
		return api.Gate{Kind: kind, Args: d.Values(d.Below(4), gates)}
	case kind == api.Not:
		return api.Gate{Kind: kind, Args: d.Values(1, gates)}
	}
	return api.Gate{Kind: d.Below(2)}
}

// Program: a program of so many forks, which has one leaf more.
func (d *Draw) Program(forks int) []api.Node {
	if forks == 0 {
		leaves := Leaves()
		return []api.Node{leaves[d.Below(len(leaves))]}
	}
	fork, left := Forks()[d.Below(len(Forks()))], d.Below(forks)
	return slices.Concat([]api.Node{fork}, d.Program(left), d.Program(forks-1-left))
}

// Rows: all rows of so many values, each below n.
func Rows(count, n int) [][]int {
	rows := [][]int{nil}
	for range count {
		var longer [][]int
		for _, l := range rows {
			for v := range n {
				longer = append(longer, append(slices.Clone(l), v))
			}
		}
		rows = longer
	}
	return rows
}

// Spare: the list with room behind it, in which the given lies.
func Spare[T any](l []T, behind ...T) []T {
	return slices.Concat(l, behind)[:len(l)]
}

// Spared: the net with room behind each of its lists, in which something lies.
func Spared(n api.Net) api.Net {
	n.Gates = Spare(n.Gates, api.Gate{Kind: 77})
	for k, g := range n.Gates {
		n.Gates[k].Args = Spare(g.Args, 77, 78)
	}
	n.Regs = Spare(n.Regs, api.Store{Begin: true, Next: 77})
	n.Outs = Spare(n.Outs, 77, 78)
	return n
}

// Whole: a copy of the net, with all that lies in the room behind its lists.
func Whole(n api.Net) api.Net {
	n.Gates = slices.Clone(n.Gates[:cap(n.Gates)])
	for k, g := range n.Gates {
		n.Gates[k].Args = slices.Clone(g.Args[:cap(g.Args)])
	}
	n.Regs = slices.Clone(n.Regs[:cap(n.Regs)])
	n.Outs = slices.Clone(n.Outs[:cap(n.Outs)])
	return n
}
