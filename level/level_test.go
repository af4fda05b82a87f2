package level

import (
	"math"
	"reflect"
	"slices"
	"testing"

	"linchpin/api"
	"linchpin/eval"
	"linchpin/sample"
)

func mustRefuse(t *testing.T, n api.Net, regs, ins []int, order, step api.Errno) {
	t.Helper()
	if l, e := Order(n); order != api.OK && len(l) != 0 || e != order {
		t.Errorf("Order of %v: %v %d, not %d", n, l, e, order)
	}
	if v, e := Step(n, regs, ins); len(v) != 0 || e != step {
		t.Errorf("Step of %v, %v %v: %v %d, not %d", n, regs, ins, v, e, step)
	}
}

func TestG1NetsErrorsFirst(t *testing.T) {
	for _, f := range sample.Faults() {
		for _, l := range [][]int{nil, {api.No}, {9}, {0, 0, 0}} {
			mustRefuse(t, f.Net, l, []int{api.No}, f.Err, f.Err)
			mustRefuse(t, f.Net, []int{api.No}, l, f.Err, f.Err)
		}
	}
	for _, ins := range []int{-1, math.MinInt} {
		n := sample.Chain()
		n.Ins = ins
		mustRefuse(t, n, []int{api.No}, nil, api.ErrRange, api.ErrRange)
	}
}

// The values' errors are told ahead of ErrRound: how many they are, then what they are.
func TestG1StepsErrorsAheadOfRound(t *testing.T) {
	one, ok := []int{api.Open}, api.OK
	for _, c := range []struct {
		n     api.Net
		order api.Errno
	}{{sample.Chain(), ok}, {sample.Knot(), api.ErrRound}} {
		for _, l := range [][]int{nil, {0, 0}, {9, 9}} {
			mustRefuse(t, c.n, l, one, c.order, api.ErrForm)
			mustRefuse(t, c.n, one, l, c.order, api.ErrForm)
			mustRefuse(t, c.n, []int{9}, l, c.order, api.ErrForm)
		}
		for _, bad := range []int{-1, 3, 256, math.MinInt, math.MaxInt} {
			mustRefuse(t, c.n, []int{bad}, one, c.order, api.ErrRange)
			mustRefuse(t, c.n, one, []int{bad}, c.order, api.ErrRange)
		}
	}
	mustRefuse(t, sample.Knot(), one, one, api.ErrRound, api.ErrRound)
	mustRefuse(t, sample.Knot(), []int{api.No}, []int{api.Yes}, api.ErrRound, api.ErrRound)
}

// Whoever hangs on itself, alone or by others, needed by nobody, settled all the same: there is no order.
func TestG1Round(t *testing.T) {
	always := api.Gate{Kind: api.Always}
	for name, gates := range map[string][]api.Gate{
		"on itself":         {{Kind: api.Not, Args: []int{0}}},
		"on itself, last":   {always, {Kind: api.Any, Args: []int{0, 1}}},
		"two":               {{Kind: api.All, Args: []int{1}}, {Kind: api.Any, Args: []int{0}}, always},
		"settled":           {{Kind: api.Any, Args: []int{2, 1}}, {Kind: api.All, Args: []int{0}}, always},
		"three, and others": {always, {Kind: api.Not, Args: []int{3}}, {Kind: api.Not, Args: []int{1}}, {Kind: api.Any, Args: []int{0, 2}}, {Kind: api.All, Args: []int{3}}},
	} {
		if l, e := Order(api.Net{Gates: gates}); len(l) != 0 || e != api.ErrRound {
			t.Errorf("%s: Order %v %d", name, l, e)
		}
		if v, e := Step(api.Net{Gates: gates}, nil, nil); len(v) != 0 || e != api.ErrRound {
			t.Errorf("%s: Step %v %d", name, v, e)
		}
	}
}

// A register whose Next hangs on it is no ring: only args count.
func TestG1OrderOfKnown(t *testing.T) {
	turn := api.Net{Gates: []api.Gate{{Kind: api.Not, Args: []int{1}}, {Kind: api.Reg}}, Regs: []api.Store{{Next: 0}}}
	late := api.Net{Gates: []api.Gate{{Kind: api.Any, Args: []int{3, 3}}, {Kind: api.Not, Args: []int{4}}, {Kind: api.All}, {Kind: api.Never}, {Kind: api.Any, Args: []int{0, 2}}, {Kind: api.Always}}}
	for _, c := range []struct {
		n    api.Net
		want []int
	}{
		{api.Net{}, nil},
		{sample.Chain(), []int{0, 1, 2, 3, 4, 5, 6, 9, 8, 7}},
		{turn, []int{1, 0}},
		{late, []int{2, 3, 0, 4, 1, 5}},
	} {
		if l, e := Order(c.n); e != api.OK || !slices.Equal(l, c.want) {
			t.Errorf("%v: %v %d, not %v", c.n, l, e, c.want)
		}
	}
}

// firstOrder: of all orders in which each gate is behind its args the one that is first as lists rise; nil, if there is none.
func firstOrder(gates []api.Gate, stand []int) []int {
	if len(stand) == len(gates) {
		return stand
	}
	for k, g := range gates {
		misses := func(a int) bool { return !slices.Contains(stand, a) }
		if slices.Contains(stand, k) || slices.ContainsFunc(g.Args, misses) {
			continue
		}
		if l := firstOrder(gates, append(slices.Clone(stand), k)); l != nil {
			return l
		}
	}
	return nil
}

func TestG1LeastOneNext(t *testing.T) {
	d := sample.Draw(41)
	found := map[api.Errno]int{}
	for i := range 3000 {
		n := d.Net(i%4, i%3, 1+d.Below(6))
		if i%2 == 0 {
			n = d.Ordered(i%4, i%3, 1+d.Below(30))
		}
		want := firstOrder(n.Gates, []int{})
		l, e := Order(n)
		found[e]++
		if (want == nil) != (e == api.ErrRound) || !slices.Equal(l, want) {
			t.Fatalf("%v: %v %d, not %v", n, l, e, want)
		}
	}
	if found[api.OK] < 1600 || found[api.ErrRound] < 500 {
		t.Errorf("too few of one kind: %v", found)
	}
}

// The longest rows, both ways, and one that is a ring by its ends.
func TestG1LongRows(t *testing.T) {
	n, back := api.Net{Gates: make([]api.Gate, api.MaxGates)}, api.Net{Gates: make([]api.Gate, api.MaxGates)}
	rising := make([]int, api.MaxGates)
	last := api.MaxGates - 1
	for k := range rising {
		rising[k] = k
		n.Gates[k] = api.Gate{Kind: api.All, Args: slices.Repeat([]int{max(0, k-1)}, api.MaxArgs)}
		back.Gates[k] = api.Gate{Kind: api.Not, Args: []int{min(last, k+1)}}
	}
	n.Gates[0], back.Gates[last] = api.Gate{Kind: api.Always}, api.Gate{Kind: api.Always}
	falling := slices.Clone(rising)
	slices.Reverse(falling)
	if l, e := Order(n); e != api.OK || !slices.Equal(l, rising) {
		t.Errorf("rising: %v %d", l, e)
	}
	if l, e := Order(back); e != api.OK || !slices.Equal(l, falling) {
		t.Errorf("falling: %v %d", l, e)
	}
	v, e := Step(back, nil, nil)
	if e != api.OK || len(v) != api.MaxGates || v[last] != api.Yes || v[last-1] != api.No || v[0] != api.No || v[1] != api.Yes {
		t.Errorf("falling, Step: %v %d", v, e)
	}
	n.Gates[0] = api.Gate{Kind: api.Not, Args: []int{last}}
	mustRefuse(t, n, nil, nil, api.ErrRound, api.ErrRound)
}

func TestG1StepOfKnown(t *testing.T) {
	no, yes, open := []int{api.No}, []int{api.Yes}, []int{api.Open}
	for _, c := range []struct {
		n               api.Net
		regs, ins, want []int
	}{
		{api.Net{}, nil, nil, nil},
		{api.Net{}, []int{}, []int{}, nil},
		{sample.Chain(), no, yes, []int{1, 0, 1, 0, 1, 0, 1, 1, 0, 0}},
		{sample.Chain(), no, no, []int{0, 0, 1, 1, 0, 0, 0, 0, 0, 0}},
		{sample.Chain(), yes, open, []int{2, 1, 0, 2, 0, 2, 2, 2, 0, 0}},
		{sample.Chain(), open, yes, []int{1, 2, 2, 0, 2, 0, 2, 2, 0, 0}},
	} {
		if v, e := Step(c.n, c.regs, c.ins); e != api.OK || !slices.Equal(v, c.want) {
			t.Errorf("%v, %v %v: %v %d, not %v", c.n, c.regs, c.ins, v, e, c.want)
		}
	}
}

// Where there is an order, eval.Step tells the same, of whatever is handed in; and nothing is Open, if nothing was.
func TestG2AsEvalTells(t *testing.T) {
	d := sample.Draw(43)
	for i := range 500 {
		n := d.Ordered(i%4, i%3, 1+d.Below(25))
		for _, handed := range sample.Rows(len(n.Regs)+n.Ins, 3) {
			regs, ins := handed[:len(n.Regs)], handed[len(n.Regs):]
			v, e := Step(n, regs, ins)
			want, f := eval.Step(n, regs, ins)
			if e != api.OK || f != api.OK || !slices.Equal(v, want) {
				t.Fatalf("%v, %v %v: %v %d, not %v %d", n, regs, ins, v, e, want, f)
			}
			if !slices.Contains(handed, api.Open) && slices.Contains(v, api.Open) {
				t.Fatalf("%v, %v %v: %v has what is Open", n, regs, ins, v)
			}
		}
	}
}

func TestP2WhatIsHandedInIsOnlyRead(t *testing.T) {
	n, regs, ins := sample.Spared(sample.Chain()), []int{api.Yes, 77}, []int{api.No, 78}
	was := sample.Whole(n)
	Order(n)
	Step(n, regs[:1], ins[:1])
	if !reflect.DeepEqual(was, sample.Whole(n)) || !slices.Equal(regs, []int{api.Yes, 77}) || !slices.Equal(ins, []int{api.No, 78}) {
		t.Errorf("changed: %v %v %v", sample.Whole(n), regs, ins)
	}
}

// What was answered once, and changed by the caller, is answered again as it was; what was handed in may change.
func TestP2P3AnswersAreNew(t *testing.T) {
	n, regs, ins := sample.Chain(), []int{api.No}, []int{api.Yes}
	order, _ := Order(n)
	v, _ := Step(n, regs, ins)
	wasOrder, was := slices.Clone(order), slices.Clone(v)
	againOrder, _ := Order(n)
	again, _ := Step(n, regs, ins)
	clear(againOrder)
	clear(again)
	n.Gates[0].Kind, n.Gates[8].Args[0], regs[0], ins[0] = api.Never, 7, api.Yes, api.No
	if !slices.Equal(order, wasOrder) || !slices.Equal(v, was) {
		t.Errorf("%v %v, and it was %v %v", order, v, wasOrder, was)
	}
	third, e := Step(sample.Chain(), []int{api.No}, []int{api.Yes})
	if e != api.OK || !slices.Equal(third, was) {
		t.Errorf("%v %d, and it was %v", third, e, was)
	}
	if l, e := Order(sample.Chain()); e != api.OK || !slices.Equal(l, wasOrder) {
		t.Errorf("%v %d, and it was %v", l, e, wasOrder)
	}
}
