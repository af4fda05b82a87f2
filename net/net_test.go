package net

import (
	"math"
	"reflect"
	"slices"
	"testing"

	"linchpin/api"
	"linchpin/sample"
)

// change of a net: what it is, and what it does.
type change struct {
	name string
	do   func(n *api.Net)
}

// fill: count gates of no args, and the other lists as great as they are asked for.
func fill(n *api.Net, gates, regs, outs int) {
	*n = api.Net{Ins: n.Ins, Gates: make([]api.Gate, gates), Regs: make([]api.Store, regs), Outs: make([]int, outs)}
}

func allowed() []change {
	return []change{
		{"as it is", func(n *api.Net) {}},
		{"nothing at all", func(n *api.Net) { *n = api.Net{} }},
		{"empty lists", func(n *api.Net) { fill(n, 0, 0, 0) }},
		{"inputs alone", func(n *api.Net) { *n = api.Net{Ins: api.MaxIns} }},
		{"all inputs", func(n *api.Net) { n.Ins = api.MaxIns; n.Gates[0].N = api.MaxIns - 1 }},
		{"all there may be", func(n *api.Net) { fill(n, api.MaxGates, api.MaxRegs, api.MaxOuts) }},
		{"the last gate", func(n *api.Net) { n.Regs[0].Next, n.Outs[0], n.Gates[4].Args[0] = 9, 9, 9 }},
		{"the first gate", func(n *api.Net) { n.Regs[0].Next, n.Outs[0], n.Gates[4].Args[0] = 0, 0, 0 }},
		{"the last register", func(n *api.Net) { n.Regs = make([]api.Store, api.MaxRegs); n.Gates[1].N = api.MaxRegs - 1 }},
		{"all args", func(n *api.Net) { n.Gates[4].Args = make([]int, api.MaxArgs) }},
		{"All of none", func(n *api.Net) { n.Gates[4].Args = nil }},
		{"Any of none", func(n *api.Net) { n.Gates[6].Args = []int{} }},
		{"Any of one", func(n *api.Net) { n.Gates[6].Args = []int{4} }},
		{"a Not of itself", func(n *api.Net) { n.Gates[2].Args = []int{2} }},
		{"Always", func(n *api.Net) { n.Gates[9].Kind = api.Always }},
		{"no outs", func(n *api.Net) { n.Outs = nil }},
		{"an out twice", func(n *api.Net) { n.Outs = []int{7, 7, 7} }},
	}
}

func tooMany() []change {
	return []change{
		{"Ins", func(n *api.Net) { n.Ins = api.MaxIns + 1 }},
		{"Ins by far", func(n *api.Net) { n.Ins = math.MaxInt }},
		{"gates", func(n *api.Net) { n.Gates = append(n.Gates, make([]api.Gate, api.MaxGates-9)...) }},
		{"registers", func(n *api.Net) { n.Regs = append(n.Regs, make([]api.Store, api.MaxRegs)...) }},
		{"outs", func(n *api.Net) { n.Outs = append(n.Outs, make([]int, api.MaxOuts-1)...) }},
		{"args of an All", func(n *api.Net) { n.Gates[8].Args = append(n.Gates[8].Args, make([]int, api.MaxArgs-1)...) }},
		{"args of a Never", func(n *api.Net) { n.Gates[9].Args = make([]int, api.MaxArgs+1) }},
	}
}

func outOfRange() []change {
	return []change{
		{"Ins below 0", func(n *api.Net) { n.Ins = -1 }},
		{"Ins far below 0", func(n *api.Net) { n.Ins = math.MinInt }},
		{"Next behind the last", func(n *api.Net) { n.Regs[0].Next = len(n.Gates) }},
		{"Next below 0", func(n *api.Net) { n.Regs[0].Next = -1 }},
		{"the last register's Next", func(n *api.Net) { n.Regs = append(n.Regs, api.Store{Next: math.MaxInt}) }},
		{"an out behind the last", func(n *api.Net) { n.Outs[1] = len(n.Gates) }},
		{"an out below 0", func(n *api.Net) { n.Outs[0] = -1 }},
		{"an arg behind the last", func(n *api.Net) { n.Gates[7].Args[1] = len(n.Gates) }},
		{"an arg below 0", func(n *api.Net) { n.Gates[7].Args[0] = -1 }},
		{"an arg of a Not", func(n *api.Net) { n.Gates[3].Args[0] = math.MinInt }},
	}
}

func noKind() []change {
	return []change{
		{"behind the last", func(n *api.Net) { n.Gates[6].Kind = api.Not + 1 }},
		{"below 0", func(n *api.Net) { n.Gates[6].Kind = -1 }},
		{"far behind", func(n *api.Net) { n.Gates[6].Kind = math.MaxInt }},
		{"256", func(n *api.Net) { n.Gates[6].Kind = 256 }},
	}
}

func notInForm() []change {
	return []change{
		{"an In behind the last", func(n *api.Net) { n.Gates[0].N = max(n.Ins, 0) }},
		{"an In below 0", func(n *api.Net) { n.Gates[0].N = -1 }},
		{"a Reg behind the last", func(n *api.Net) { n.Gates[1].N = len(n.Regs) }},
		{"a Reg below 0", func(n *api.Net) { n.Gates[1].N = -1 }},
		{"a Not of none", func(n *api.Net) { n.Gates[2].Args = nil }},
		{"a Not of two", func(n *api.Net) { n.Gates[2].Args = []int{1, 1} }},
		{"a Never with args", func(n *api.Net) { n.Gates[0] = api.Gate{Kind: api.Never, Args: []int{0}} }},
		{"an Always with args", func(n *api.Net) { n.Gates[0] = api.Gate{Kind: api.Always, Args: []int{1}} }},
		{"an In with args", func(n *api.Net) { n.Gates[0].Args = []int{0} }},
		{"a Reg with args", func(n *api.Net) { n.Gates[1].Args = []int{0} }},
		{"N of a Never", func(n *api.Net) { n.Gates[0] = api.Gate{Kind: api.Never, N: 1} }},
		{"N of an Always", func(n *api.Net) { n.Gates[0] = api.Gate{Kind: api.Always, N: -1} }},
		{"N of an All", func(n *api.Net) { n.Gates[4].N = 1 }},
		{"N of an Any", func(n *api.Net) { n.Gates[4].Kind = api.Any; n.Gates[4].N = math.MinInt }},
		{"N of a Not", func(n *api.Net) { n.Gates[2].N = 1 }},
	}
}

// mustRefuse: Check tells that error, and the others tell it first, with nothing beside it.
func mustRefuse(t *testing.T, name string, n api.Net, want api.Errno) {
	t.Helper()
	if e := Check(n); e != want {
		t.Errorf("%s: Check %d, not %d", name, e, want)
	}
	if l, e := Begin(n); len(l) != 0 || e != want {
		t.Errorf("%s: Begin %v %d, not %d", name, l, e, want)
	}
	for _, l := range [][]int{nil, {0}, {-1}, {math.MaxInt}} {
		if is, e := Needs(n, l); len(is) != 0 || e != want {
			t.Errorf("%s: Needs of %v: %v %d, not %d", name, l, is, e, want)
		}
	}
}

func TestB1WhatMayBe(t *testing.T) {
	for _, c := range allowed() {
		n := sample.Knot()
		c.do(&n)
		if e := Check(n); e != api.OK {
			t.Errorf("%s: %d", c.name, e)
		}
	}
}

// Each fault alone, and each with each of those that are told behind it, whichever came in first.
func TestB1FirstOfAllFaults(t *testing.T) {
	kinds := []struct {
		fault   api.Errno
		changes []change
	}{{api.ErrMany, tooMany()}, {api.ErrRange, outOfRange()}, {api.ErrKind, noKind()}, {api.ErrForm, notInForm()}}
	for i, kind := range kinds {
		for _, one := range kind.changes {
			n := sample.Knot()
			one.do(&n)
			mustRefuse(t, one.name, n, kind.fault)
			for _, later := range kinds[i+1:] {
				for _, two := range later.changes {
					n := sample.Knot()
					two.do(&n)
					one.do(&n)
					mustRefuse(t, one.name+" and "+two.name, n, kind.fault)
				}
			}
		}
	}
}

// What is asked of a gate is asked of all of them, wherever it stands.
func TestB1EachGateIsAsked(t *testing.T) {
	for k := range api.MaxGates {
		for _, c := range []struct {
			bad  api.Gate
			want api.Errno
		}{
			{api.Gate{Kind: api.All, Args: make([]int, api.MaxArgs+1)}, api.ErrMany},
			{api.Gate{Kind: api.All, Args: []int{0, api.MaxGates}}, api.ErrRange},
			{api.Gate{Kind: 7}, api.ErrKind},
			{api.Gate{Kind: api.Never, N: 1}, api.ErrForm},
			{api.Gate{Kind: api.In, N: 0}, api.ErrForm},
			{api.Gate{Kind: api.Reg, N: 0}, api.ErrForm},
		} {
			n := api.Net{Gates: make([]api.Gate, api.MaxGates)}
			n.Gates[k] = c.bad
			if e := Check(n); e != c.want {
				t.Errorf("gate %d, %v: %d, not %d", k, c.bad, e, c.want)
			}
		}
	}
}

// Without gates nothing is a gate.
func TestB1NoGates(t *testing.T) {
	mustRefuse(t, "a register", api.Net{Regs: make([]api.Store, 1)}, api.ErrRange)
	mustRefuse(t, "an out", api.Net{Outs: make([]int, 1)}, api.ErrRange)
}

func TestB2Begin(t *testing.T) {
	for _, regs := range []int{0, 1, 2, 3, 7, api.MaxRegs} {
		for bits := 0; bits < 1<<regs; bits += 1 + bits/5 {
			n := sample.Knot()
			n.Gates[1] = api.Gate{Kind: api.Always}
			n.Regs = nil
			want := make([]int, regs)
			for k := range regs {
				n.Regs = append(n.Regs, api.Store{Begin: bits>>k&1 == 1, Next: k % 10})
				if bits>>k&1 == 1 {
					want[k] = api.Yes
				}
			}
			if l, e := Begin(n); e != api.OK || !slices.Equal(l, want) {
				t.Errorf("%b: %v %d", bits, l, e)
			}
		}
	}
}

func TestB2NeedsOfKnot(t *testing.T) {
	for _, c := range []struct{ l, needed []int }{
		{nil, nil},
		{[]int{}, nil},
		{[]int{9}, []int{9}},
		{[]int{4}, []int{0, 1, 2, 4}},
		{[]int{4, 4, 4}, []int{0, 1, 2, 4}},
		{[]int{3, 2}, []int{0, 1, 2, 3}},
		{[]int{6}, []int{0, 1, 2, 3, 4, 5, 6}},
		{[]int{8}, []int{0, 1, 2, 3, 4, 5, 6, 7, 8, 9}},
	} {
		want := make([]bool, 10)
		for _, k := range c.needed {
			want[k] = true
		}
		if is, e := Needs(sample.Knot(), c.l); e != api.OK || !slices.Equal(is, want) {
			t.Errorf("of %v: %v %d", c.l, is, e)
		}
	}
}

func TestB2NeedsOfNoGate(t *testing.T) {
	for _, k := range []int{-1, 10, 11, math.MinInt, math.MaxInt} {
		for _, l := range [][]int{{k}, {0, k}, {k, 0}, {1, k, 1}} {
			if is, e := Needs(sample.Knot(), l); len(is) != 0 || e != api.ErrRange {
				t.Errorf("of %v: %v %d", l, is, e)
			}
		}
	}
	if is, e := Needs(api.Net{}, []int{0}); len(is) != 0 || e != api.ErrRange {
		t.Errorf("of 0 without gates: %v %d", is, e)
	}
	if is, e := Needs(api.Net{}, nil); len(is) != 0 || e != api.OK {
		t.Errorf("of none without gates: %v %d", is, e)
	}
}

// bitsOf: the numbers of the bits of a that are 1.
func bitsOf(a int) []int {
	var l []int
	for k := range 8 {
		if a>>k&1 == 1 {
			l = append(l, k)
		}
	}
	return l
}

// Every net of three gates that hang on one another, and every list: held against
// whichever way leads from one gate to another.
func TestB2NeedsOfAllSmallNets(t *testing.T) {
	for hang := range 1 << 9 {
		var n api.Net
		var leads [3][3]bool
		for k := range 3 {
			args := bitsOf(hang >> (3 * k) & 7)
			n.Gates = append(n.Gates, api.Gate{Kind: api.All + k%2, Args: args})
			leads[k][k] = true
			for _, a := range args {
				leads[k][a] = true
			}
		}
		for by := range 3 {
			for from := range 3 {
				for to := range 3 {
					leads[from][to] = leads[from][to] || leads[from][by] && leads[by][to]
				}
			}
		}
		for of := range 1 << 3 {
			want := make([]bool, 3)
			for _, from := range bitsOf(of) {
				for to := range 3 {
					want[to] = want[to] || leads[from][to]
				}
			}
			if is, e := Needs(n, bitsOf(of)); e != api.OK || !slices.Equal(is, want) {
				t.Errorf("%v of %v: %v %d", n.Gates, bitsOf(of), is, e)
			}
		}
	}
}

// The longest row, both ways and as a ring, and the most args: all of it is needed, and the call ends.
func TestB2NeedsOfGreatNets(t *testing.T) {
	for _, by := range []int{1, api.MaxGates - 1} {
		n := api.Net{Gates: make([]api.Gate, api.MaxGates)}
		for k := range n.Gates {
			n.Gates[k] = api.Gate{Kind: api.Any}
			for i := range api.MaxArgs {
				n.Gates[k].Args = append(n.Gates[k].Args, (k+by*(i+1))%api.MaxGates)
			}
		}
		if is, e := Needs(n, make([]int, 100000)); e != api.OK || len(is) != api.MaxGates || slices.Contains(is, false) {
			t.Errorf("by %d: %v %d", by, is, e)
		}
	}
}

func TestP2WhatIsHandedInIsOnlyRead(t *testing.T) {
	n, l := sample.Spared(sample.Knot()), []int{4, 0, 77, 78}
	was := sample.Whole(n)
	if e := Check(n); e != api.OK {
		t.Errorf("Check: %d", e)
	}
	Begin(n)
	Needs(n, l[:2])
	if !reflect.DeepEqual(was, sample.Whole(n)) || !slices.Equal(l, []int{4, 0, 77, 78}) {
		t.Errorf("changed: %v %v", sample.Whole(n), l)
	}
}

// What was answered once, and changed by the caller, is answered again as it was.
func TestP2P3AnswersAreNew(t *testing.T) {
	n := sample.Knot()
	for range 2 {
		begin, _ := Begin(n)
		needs, _ := Needs(n, []int{9})
		if !slices.Equal(begin, []int{api.No}) || slices.Index(needs, true) != 9 {
			t.Errorf("%v %v", begin, needs)
		}
		begin[0], needs[0] = 9, true
	}
}
