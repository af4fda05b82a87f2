package eval

import (
	"math"
	"reflect"
	"slices"
	"testing"

	"linchpin/api"
	"linchpin/sample"
	"linchpin/tern"
)

// mustRefuse: both calls tell that error, with nothing beside it, whatever v is.
func mustRefuse(t *testing.T, n api.Net, regs, ins []int, want api.Errno) {
	t.Helper()
	if v, e := Step(n, regs, ins); len(v) != 0 || e != want {
		t.Errorf("Step of %v %v: %v %d, not %d", regs, ins, v, e, want)
	}
	for _, v := range [][]int{nil, make([]int, len(n.Gates)), {9}, slices.Repeat([]int{9}, len(n.Gates))} {
		if is, e := Solves(n, regs, ins, v); is || e != want {
			t.Errorf("Solves of %v %v, %v: %v %d, not %d", regs, ins, v, is, e, want)
		}
	}
}

var notValues = []int{-1, 3, 256, math.MinInt, math.MaxInt}

func TestC1NetsErrorsFirst(t *testing.T) {
	for _, f := range sample.Faults() {
		for _, l := range [][]int{nil, {api.Yes}, {9}, {0, 0, 0, 0}} {
			mustRefuse(t, f.Net, l, []int{api.No}, f.Err)
			mustRefuse(t, f.Net, []int{api.No}, l, f.Err)
		}
	}
}

// As many as there are, of both; and this ahead of what the values are.
func TestC1CountsAheadOfValues(t *testing.T) {
	for regs := range 4 {
		for ins := range 4 {
			n := sample.Knot()
			n.Ins = 2
			n.Regs = make([]api.Store, 2)
			if regs == 2 && ins == 2 {
				continue
			}
			for _, v := range append(notValues, api.No, api.Yes, api.Open) {
				mustRefuse(t, n, slices.Repeat([]int{v}, regs), slices.Repeat([]int{v}, ins), api.ErrForm)
			}
		}
	}
	mustRefuse(t, api.Net{}, []int{api.No}, nil, api.ErrForm)
	mustRefuse(t, api.Net{}, nil, []int{api.No}, api.ErrForm)
}

func TestC1NoValues(t *testing.T) {
	n := sample.Knot()
	n.Ins = 2
	n.Regs = make([]api.Store, 2)
	for _, bad := range notValues {
		for _, l := range [][]int{{bad, api.Yes}, {api.Open, bad}, {bad, bad}} {
			mustRefuse(t, n, l, []int{api.Yes, api.Open}, api.ErrRange)
			mustRefuse(t, n, []int{api.Yes, api.Open}, l, api.ErrRange)
			mustRefuse(t, n, l, l, api.ErrRange)
		}
	}
}

// told: what a gate of these must be: what all agree on that its args may yet become, else Open.
func told(kind int, args []int) int {
	seen := map[int]bool{}
	var tell func(settled []int)
	tell = func(settled []int) {
		k := len(settled)
		switch {
		case k < len(args) && args[k] == api.Open:
			tell(append(slices.Clone(settled), api.No))
			tell(append(slices.Clone(settled), api.Yes))
		case k < len(args):
			tell(append(slices.Clone(settled), args[k]))
		case kind == api.All:
			seen[api.Yes-min(1, len(settled)-sum(settled))] = true
		case kind == api.Any:
			seen[min(1, sum(settled))] = true
		case kind == api.Not:
			seen[api.Yes-settled[0]] = true
		}
	}
	tell(nil)
	if len(seen) == 2 {
		return api.Open
	}
	for v := range seen {
		return v
	}
	return -1
}

func sum(l []int) int {
	s := 0
	for _, v := range l {
		s += v
	}
	return s
}

// must: what gate g must have, if the others have v.
func must(g api.Gate, regs, ins, v []int) int {
	switch g.Kind {
	case api.Never:
		return api.No
	case api.Always:
		return api.Yes
	case api.In:
		return ins[g.N]
	case api.Reg:
		return regs[g.N]
	}
	var args []int
	for _, a := range g.Args {
		args = append(args, v[a])
	}
	return told(g.Kind, args)
}

// lists: all lists of so many values.
func lists(count int) [][]int { return sample.Rows(count, 3) }

// One gate of each kind, of registers and inputs that have all there is: which it is of, and how many.
func TestC1ValueOfEachKind(t *testing.T) {
	n := api.Net{Ins: 2, Regs: make([]api.Store, 2)}
	n.Gates = []api.Gate{{Kind: api.In, N: 1}, {Kind: api.Reg, N: 1}, {Kind: api.In}, {Kind: api.Reg}, {Kind: api.Never}, {Kind: api.Always}}
	for _, kind := range []int{api.All, api.Any} {
		for _, args := range [][]int{nil, {0}, {0, 1}, {0, 1, 2}, {3, 2, 1, 0}, {4, 0}, {0, 4}, {5, 0}, {0, 5}, {0, 0}, slices.Repeat([]int{1}, api.MaxArgs)} {
			n.Gates = append(n.Gates, api.Gate{Kind: kind, Args: args})
		}
	}
	for k := range 6 {
		n.Gates = append(n.Gates, api.Gate{Kind: api.Not, Args: []int{k}})
	}
	for _, regs := range lists(2) {
		for _, ins := range lists(2) {
			v, e := Step(n, regs, ins)
			if e != api.OK || len(v) != len(n.Gates) {
				t.Fatalf("%v %v: %v %d", regs, ins, v, e)
			}
			for k, g := range n.Gates {
				if want := must(g, regs, ins, v); v[k] != want {
					t.Errorf("%v %v: gate %d, %v: %d, not %d", regs, ins, k, g, v[k], want)
				}
			}
		}
	}
}

func TestC2StepOfKnown(t *testing.T) {
	no, yes := []int{api.No}, []int{api.Yes}
	ring := api.Net{Gates: []api.Gate{{Kind: api.Not, Args: []int{0}}, {Kind: api.All, Args: []int{2}}, {Kind: api.Any, Args: []int{1}}, {Kind: api.Any, Args: []int{0, 5}}, {Kind: api.All, Args: []int{1, 3}}, {Kind: api.Always}}}
	for _, c := range []struct {
		n         api.Net
		regs, ins []int
		want      []int
	}{
		{api.Net{}, nil, nil, nil},
		{sample.Knot(), no, yes, []int{1, 0, 1, 0, 1, 0, 1, 1, 0, 0}},
		{sample.Knot(), no, no, []int{0, 0, 1, 1, 0, 0, 0, 0, 0, 0}},
		{sample.Knot(), yes, []int{api.Open}, []int{2, 1, 0, 2, 0, 2, 2, 2, 0, 0}},
		{sample.Loose(), nil, no, []int{0, 2, 2}},
		{sample.Loose(), nil, yes, []int{1, 1, 1}},
		{sample.Loose(), nil, []int{api.Open}, []int{2, 2, 2}},
		{ring, nil, nil, []int{2, 2, 2, 1, 2, 1}},
	} {
		if v, e := Step(c.n, c.regs, c.ins); e != api.OK || !slices.Equal(v, c.want) {
			t.Errorf("%v, %v %v: %v %d, not %v", c.n, c.regs, c.ins, v, e, c.want)
		}
	}
}

// What hangs on itself has several solutions, and what is Open is one of them.
func TestC2SolvesOfLoose(t *testing.T) {
	for in, want := range [][][]int{{{0, 0, 0}, {0, 1, 1}, {0, 2, 2}}, {{1, 1, 1}}, {{2, 1, 1}, {2, 2, 2}}} {
		for _, v := range lists(3) {
			is, e := Solves(sample.Loose(), nil, []int{in}, v)
			solves := slices.ContainsFunc(want, func(w []int) bool { return slices.Equal(v, w) })
			if e != api.OK || is != solves {
				t.Errorf("input %d, %v: %v %d", in, v, is, e)
			}
		}
	}
	if is, e := Solves(api.Net{}, nil, nil, nil); !is || e != api.OK {
		t.Errorf("of no gates: %v %d", is, e)
	}
}

func TestC2SolvesErrors(t *testing.T) {
	one := []int{api.Yes}
	for count := range 20 {
		for _, v := range append(notValues, api.Open) {
			want := api.ErrForm
			if count == 10 {
				want = api.ErrRange
			}
			if count == 10 && v == api.Open {
				continue
			}
			if is, e := Solves(sample.Knot(), one, one, slices.Repeat([]int{v}, count)); is || e != want {
				t.Errorf("%d of %d: %v %d", count, v, is, e)
			}
		}
	}
	for k := range 10 {
		v, _ := Step(sample.Knot(), one, one)
		v[k] = 3
		if is, e := Solves(sample.Knot(), one, one, v); is || e != api.ErrRange {
			t.Errorf("gate %d has 3: %v %d", k, is, e)
		}
	}
}

// rounds: what must be settled: all gates at once, over and over.
func rounds(n api.Net, regs, ins []int) []int {
	v := slices.Repeat([]int{api.Open}, len(n.Gates))
	for {
		var next []int
		for _, g := range n.Gates {
			next = append(next, must(g, regs, ins, v))
		}
		if slices.Equal(v, next) {
			return v
		}
		v = next
	}
}

func TestC2StepOfDrawnNets(t *testing.T) {
	d := sample.Draw(3)
	for i := range 2000 {
		n := d.Net(i%4, i%3, 1+d.Below(12))
		regs, ins := d.Values(len(n.Regs), 3), d.Values(n.Ins, 3)
		if v, e := Step(n, regs, ins); e != api.OK || !slices.Equal(v, rounds(n, regs, ins)) {
			t.Fatalf("%v, %v %v: %v %d, not %v", n, regs, ins, v, e, rounds(n, regs, ins))
		}
	}
}

// The longest row, both ways: what comes in at one end gets to the other.
func TestC2StepOfLongRows(t *testing.T) {
	for _, in := range []int{api.No, api.Yes, api.Open} {
		n := api.Net{Ins: 1, Gates: make([]api.Gate, api.MaxGates)}
		back := api.Net{Ins: 1, Gates: make([]api.Gate, api.MaxGates)}
		for k := range n.Gates {
			n.Gates[k] = api.Gate{Kind: api.Not, Args: []int{max(0, k-1)}}
			back.Gates[k] = api.Gate{Kind: api.Not, Args: []int{k + 1}}
		}
		n.Gates[0] = api.Gate{Kind: api.In}
		back.Gates[api.MaxGates-1] = api.Gate{Kind: api.In}
		v, e := Step(n, nil, []int{in})
		w, f := Step(back, nil, []int{in})
		slices.Reverse(w)
		if e != api.OK || f != api.OK || !slices.Equal(v, w) || !slices.Equal(v, rounds(n, nil, []int{in})) {
			t.Errorf("%d: %v %d; %v %d", in, v, e, w, f)
		}
	}
}

// choices of a gate, of two that there are: each kind, and all that it may hang on.
func choices() []api.Gate {
	all := []api.Gate{{Kind: api.Never}, {Kind: api.Always}, {Kind: api.In}, {Kind: api.Reg}, {Kind: api.Not, Args: []int{0}}, {Kind: api.Not, Args: []int{1}}}
	for _, args := range [][]int{nil, {0}, {1}, {0, 1}} {
		all = append(all, api.Gate{Kind: api.All, Args: args}, api.Gate{Kind: api.Any, Args: args})
	}
	return all
}

// Each net of two gates: what Solves tells, of all that may be said; and Step is one of those that solve, and the least.
func TestC3StepIsTheLeastThatSolves(t *testing.T) {
	for _, one := range choices() {
		for _, two := range choices() {
			n := api.Net{Ins: 1, Gates: []api.Gate{one, two}, Regs: make([]api.Store, 1)}
			for _, handed := range lists(2) {
				leastThatSolves(t, n, handed[:1], handed[1:])
			}
		}
	}
	d := sample.Draw(5)
	for i := range 300 {
		n := d.Net(i%2, i/2%2, 1+d.Below(5))
		leastThatSolves(t, n, d.Values(len(n.Regs), 3), d.Values(n.Ins, 3))
	}
}

func leastThatSolves(t *testing.T, n api.Net, regs, ins []int) {
	t.Helper()
	least, e := Step(n, regs, ins)
	if is, f := Solves(n, regs, ins, least); e != api.OK || f != api.OK || !is {
		t.Fatalf("%v, %v %v: %v %d does not solve, %d", n, regs, ins, least, e, f)
	}
	for _, v := range lists(len(n.Gates)) {
		solves := true
		for k, g := range n.Gates {
			solves = solves && v[k] == must(g, regs, ins, v)
		}
		if is, e := Solves(n, regs, ins, v); is != solves || e != api.OK {
			t.Fatalf("%v, %v %v: Solves of %v: %v %d", n, regs, ins, v, is, e)
		}
		if is, _ := tern.Leq(least, v); solves && !is {
			t.Fatalf("%v, %v %v: %v solves, and %v is not Leq", n, regs, ins, v, least)
		}
	}
}

func TestC3LessOpenInNoMoreOpenOut(t *testing.T) {
	d := sample.Draw(7)
	for i := range 200 {
		n := d.Net(1+i%2, 1, 1+d.Below(10))
		for _, more := range lists(1 + n.Ins) {
			for _, less := range lists(1 + n.Ins) {
				if is, _ := tern.Leq(more, less); !is {
					continue
				}
				v, _ := Step(n, more[:1], more[1:])
				w, _ := Step(n, less[:1], less[1:])
				if is, e := tern.Leq(v, w); !is || e != api.OK {
					t.Fatalf("%v: %v of %v, %v of %v", n, v, more, w, less)
				}
			}
		}
	}
}

func TestP2WhatIsHandedInIsOnlyRead(t *testing.T) {
	n, regs, ins := sample.Spared(sample.Knot()), []int{api.Yes, 77}, []int{api.No, 78}
	v, _ := Step(n, regs[:1], ins[:1])
	was, v := sample.Whole(n), append(v, 79)
	Step(n, regs[:1], ins[:1])
	if is, e := Solves(n, regs[:1], ins[:1], v[:10]); !is || e != api.OK {
		t.Errorf("%v %d", is, e)
	}
	if !reflect.DeepEqual(was, sample.Whole(n)) || regs[0] != api.Yes || regs[1] != 77 || ins[0] != api.No || ins[1] != 78 || v[10] != 79 {
		t.Errorf("changed: %v %v %v %v", sample.Whole(n), regs, ins, v)
	}
}

// What was answered once, and changed by the caller, is answered again as it was; what was handed in may change.
func TestP2P3AnswersAreNew(t *testing.T) {
	n, regs, ins := sample.Knot(), []int{api.No}, []int{api.Yes}
	first, _ := Step(n, regs, ins)
	was := slices.Clone(first)
	again, _ := Step(n, regs, ins)
	clear(again)
	n.Gates[0].Kind, regs[0], ins[0] = api.Never, api.Yes, api.No
	if !slices.Equal(first, was) {
		t.Errorf("%v, and it was %v", first, was)
	}
	if third, e := Step(sample.Knot(), []int{api.No}, []int{api.Yes}); e != api.OK || !slices.Equal(third, was) {
		t.Errorf("%v %d, and it was %v", third, e, was)
	}
}
