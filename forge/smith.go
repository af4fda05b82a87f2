package forge

import (
	"slices"

	"linchpin/api"
	"linchpin/prog"
)

// smith makes a net of a program, whose nodes were checked. A gate comes behind
// its args, so that there is an order.
type smith struct {
	api.Net
	nodes []api.Node
	// The gates that tell what is handed in: the inputs, is it the first instant,
	// what was put out at the instant ahead, and which nodes wait.
	ins   []int
	fresh int
	was   []int
	waits map[int]int
	// puts: of each output the gates by which it is put out.
	puts [api.MaxOuts][]int
}

// newSmith makes what all other gates hang on ahead of them.
func newSmith(p []api.Node, may []bool) *smith {
	s := &smith{Net: api.Net{Ins: api.MaxIns}, nodes: p, waits: map[int]int{}}
	for k := range s.Ins {
		s.ins = append(s.ins, s.add(api.Gate{Kind: api.In, N: k}))
	}
	s.fresh = s.register(true)
	for range api.MaxOuts {
		s.was = append(s.was, s.register(false))
	}
	for k, mayWait := range may {
		if mayWait {
			s.waits[k] = s.register(false)
		}
	}
	return s
}

func (s *smith) forge() {
	s.store(s.fresh, s.gate(api.Never))
	// While it is Fresh none waits, so that it is not begun and goes on at once.
	s.node(0, s.fresh, s.someWait(0))
	for k, by := range s.puts {
		out := s.gate(api.Any, by...)
		s.store(s.was[k], out)
		s.Outs = append(s.Outs, out)
	}
}

// node k is begun by one gate, and goes on by the other, never by both at once;
// the answer is the gate that tells whether it is over.
func (s *smith) node(k, begun, goes int) int {
	first, second, _ := s.parts(k)
	switch node := s.nodes[k]; node.Kind {
	case api.Pause:
		s.store(s.waits[k], begun)
		return goes
	case api.Halt:
		s.store(s.waits[k], s.gate(api.Any, begun, goes))
		return s.gate(api.Never)
	case api.Await:
		return s.await(k, begun, goes)
	case api.Emit:
		s.puts[node.Sig] = append(s.puts[node.Sig], begun)
	case api.Seq:
		return s.behind(first, second, begun, goes)
	case api.Par:
		return s.atOnce(goes, part{first, begun}, part{second, begun})
	case api.If:
		return s.choice(s.ins[node.Sig], first, second, begun, goes)
	case api.Was:
		return s.choice(s.was[node.Sig], first, second, begun, goes)
	}
	return begun
}

func (s *smith) await(k, begun, goes int) int {
	isThere := s.ins[s.nodes[k].Sig]
	stays := s.gate(api.All, goes, s.gate(api.Not, isThere))
	s.store(s.waits[k], s.gate(api.Any, begun, stays))
	return s.gate(api.All, goes, isThere)
}

// behind lets the second part go on only if the first does not: by the first
// one's end it is begun.
func (s *smith) behind(first, second, begun, goes int) int {
	firstGoes := s.gate(api.All, goes, s.someWait(first))
	secondGoes := s.gate(api.All, goes, s.gate(api.Not, firstGoes))
	return s.node(second, s.node(first, begun, firstGoes), secondGoes)
}

func (s *smith) choice(isThere, first, second, begun, goes int) int {
	firstBegun := s.gate(api.All, begun, isThere)
	secondBegun := s.gate(api.All, begun, s.gate(api.Not, isThere))
	return s.atOnce(goes, part{first, firstBegun}, part{second, secondBegun})
}

// part is a node, and the gate by which it is begun.
type part struct{ node, begun int }

// atOnce is over, if one of the parts is, and none that was begun, or went on,
// is not.
func (s *smith) atOnce(goes int, parts ...part) int {
	var overs, lags []int
	for _, p := range parts {
		partGoes := s.gate(api.All, goes, s.someWait(p.node))
		over := s.node(p.node, p.begun, partGoes)
		works := s.gate(api.Any, p.begun, partGoes)
		overs = append(overs, over)
		lags = append(lags, s.gate(api.All, works, s.gate(api.Not, over)))
	}
	noneLags := s.gate(api.Not, s.gate(api.Any, lags...))
	return s.gate(api.All, s.gate(api.Any, overs...), noneLags)
}

// someWait is asked in node k, and in all that belongs to it.
func (s *smith) someWait(k int) int {
	_, _, next := s.parts(k)
	var waits []int
	for i := k; i < next; i++ {
		if gate, mayWait := s.waits[i]; mayWait {
			waits = append(waits, gate)
		}
	}
	return s.gate(api.Any, waits...)
}

// gate copies its args: a list that is handed in whole stays the caller's.
func (s *smith) gate(kind int, args ...int) int {
	return s.add(api.Gate{Kind: kind, Args: slices.Clone(args)})
}

// register is known by its gate; what it takes is told by store.
func (s *smith) register(begin bool) int {
	s.Regs = append(s.Regs, api.Store{Begin: begin})
	return s.add(api.Gate{Kind: api.Reg, N: len(s.Regs) - 1})
}

func (s *smith) store(register, next int) { s.Regs[s.Gates[register].N].Next = next }

func (s *smith) add(g api.Gate) int {
	s.Gates = append(s.Gates, g)
	return len(s.Gates) - 1
}

// parts leaves the error out: the program was checked, and k is one of its nodes.
func (s *smith) parts(k int) (first, second, next int) {
	first, second, next, _ = prog.Parts(s.nodes, k)
	return first, second, next
}
