package sweep

import (
	"math"
	"reflect"
	"slices"
	"testing"

	"linchpin/api"
	"linchpin/eval"
	"linchpin/net"
	"linchpin/sample"
	"linchpin/tick"
)

func sameGate(a, b api.Gate) bool {
	return a.Kind == b.Kind && a.N == b.N && slices.Equal(a.Args, b.Args)
}

// same: as nets; an empty list may be nil or not.
func same(a, b api.Net) bool {
	return a.Ins == b.Ins && slices.EqualFunc(a.Gates, b.Gates, sameGate) && slices.Equal(a.Regs, b.Regs) && slices.Equal(a.Outs, b.Outs)
}

func TestF1NetsErrors(t *testing.T) {
	faults := sample.Faults()
	for _, ins := range []int{-1, math.MinInt, api.MaxIns + 1, math.MaxInt} {
		n := sample.Knot()
		n.Ins = ins
		faults = append(faults, sample.Fault{Net: n, Err: net.Check(n)})
	}
	for _, f := range faults {
		a, e := Fold(f.Net)
		b, g := Drop(f.Net)
		if f.Err == api.OK || e != f.Err || g != f.Err {
			t.Errorf("%v: %d %d, not %d", f.Net, e, g, f.Err)
		}
		if !reflect.DeepEqual(a, api.Net{}) || !reflect.DeepEqual(b, api.Net{}) {
			t.Errorf("%v: an error, and %v %v", f.Net, a, b)
		}
	}
}

// Rings: 1 and 2 stay loose, and 4 is settled beside them, and 5 by it, though it hangs on itself; so is 7, of none.
func rings() api.Net {
	return api.Net{
		Ins: 2,
		Gates: []api.Gate{
			{Kind: api.In, N: 1},
			{Kind: api.All, Args: []int{2, 0}},
			{Kind: api.Any, Args: []int{1}},
			{Kind: api.Always},
			{Kind: api.Any, Args: []int{1, 3, 4}},
			{Kind: api.All, Args: []int{5, 6}},
			{Kind: api.Not, Args: []int{4}},
			{Kind: api.All},
			{Kind: api.Not, Args: []int{8}},
			{Kind: api.Reg, N: 1},
			{Kind: api.Any, Args: []int{9, 11}},
			{Kind: api.Not, Args: []int{9}},
		},
		Regs: []api.Store{{Begin: true, Next: 7}, {Next: 2}},
		Outs: []int{8, 10, 8},
	}
}

func TestF1FoldOfKnown(t *testing.T) {
	knot, chain := sample.Knot(), sample.Chain()
	knot.Gates[8], chain.Gates[8] = api.Gate{Kind: api.Never}, api.Gate{Kind: api.Never}
	round := rings()
	round.Gates[4], round.Gates[5], round.Gates[6], round.Gates[7] = api.Gate{Kind: api.Always}, api.Gate{}, api.Gate{}, api.Gate{Kind: api.Always}
	for _, c := range []struct{ n, want api.Net }{
		{api.Net{}, api.Net{}},
		{api.Net{Ins: 3, Gates: []api.Gate{}, Regs: []api.Store{}, Outs: []int{}}, api.Net{Ins: 3}},
		{sample.Knot(), knot},
		{sample.Chain(), chain},
		{sample.Loose(), sample.Loose()},
		{rings(), round},
	} {
		if got, e := Fold(c.n); e != api.OK || !same(got, c.want) {
			t.Errorf("%v: %v %d, not %v", c.n, got, e, c.want)
		}
	}
}

func TestF1DropOfKnown(t *testing.T) {
	folded, _ := Fold(sample.Knot())
	without := sample.Knot()
	without.Gates = without.Gates[:9]
	without.Gates[8] = api.Gate{Kind: api.Never}
	noOuts, few := sample.Knot(), sample.Knot()
	noOuts.Outs, few.Outs, few.Gates = nil, nil, few.Gates[:7]
	nobody := sample.Knot()
	nobody.Gates[1], nobody.Regs, nobody.Outs = api.Gate{Kind: api.Never}, nil, nil
	kept := api.Net{
		Ins: 2,
		Gates: []api.Gate{
			{Kind: api.In, N: 1},
			{Kind: api.All, Args: []int{2, 0}},
			{Kind: api.Any, Args: []int{1}},
			{Kind: api.All},
			{Kind: api.Not, Args: []int{4}},
			{Kind: api.Reg, N: 1},
			{Kind: api.Any, Args: []int{5, 7}},
			{Kind: api.Not, Args: []int{5}},
		},
		Regs: []api.Store{{Begin: true, Next: 3}, {Next: 2}},
		Outs: []int{4, 6, 4},
	}
	for _, c := range []struct{ n, want api.Net }{
		{api.Net{}, api.Net{}},
		{sample.Knot(), sample.Knot()},
		{folded, without},
		{noOuts, few},
		{nobody, api.Net{Ins: 1}},
		{rings(), kept},
		{api.Net{Gates: make([]api.Gate, api.MaxGates)}, api.Net{}},
		{api.Net{Gates: make([]api.Gate, api.MaxGates), Regs: []api.Store{{Next: 199}}, Outs: []int{198, 0}}, api.Net{Gates: make([]api.Gate, 3), Regs: []api.Store{{Next: 2}}, Outs: []int{1, 0}}},
	} {
		if got, e := Drop(c.n); e != api.OK || !same(got, c.want) {
			t.Errorf("%v: %v %d, not %v", c.n, got, e, c.want)
		}
	}
}

// Just those gates change that are settled, with all Open; whatever else the net has stays.
func TestF1FoldOfDrawnNets(t *testing.T) {
	d := sample.Draw(23)
	for i := range 1000 {
		n := d.Net(i%4, i%3, 1+d.Below(12))
		v, _ := eval.Step(n, slices.Repeat([]int{api.Open}, len(n.Regs)), slices.Repeat([]int{api.Open}, n.Ins))
		want := n
		want.Gates = slices.Clone(n.Gates)
		for k := range v {
			if v[k] != api.Open {
				want.Gates[k] = api.Gate{Kind: v[k]}
			}
		}
		got, e := Fold(n)
		if e != api.OK || !same(got, want) {
			t.Fatalf("%v: %v %d, not %v", n, got, e, want)
		}
		if again, e := Fold(got); e != api.OK || !same(again, got) {
			t.Fatalf("%v, folded again: %v %d", got, again, e)
		}
	}
}

// staying: those gates that a walk along args meets, from outs and registers on, rising.
func staying(n api.Net) []int {
	met := slices.Clone(n.Outs)
	for _, r := range n.Regs {
		met = append(met, r.Next)
	}
	for at := 0; at < len(met); at++ {
		for _, k := range n.Gates[met[at]].Args {
			if !slices.Contains(met, k) {
				met = append(met, k)
			}
		}
	}
	slices.Sort(met)
	return slices.Compact(met)
}

func TestF1DropOfDrawnNets(t *testing.T) {
	d := sample.Draw(29)
	for i := range 1000 {
		n := d.Net(i%4, i%3, 1+d.Below(12))
		stay := staying(n)
		want := api.Net{Ins: n.Ins}
		for _, k := range n.Outs {
			want.Outs = append(want.Outs, slices.Index(stay, k))
		}
		for _, r := range n.Regs {
			want.Regs = append(want.Regs, api.Store{Begin: r.Begin, Next: slices.Index(stay, r.Next)})
		}
		for _, k := range stay {
			g := api.Gate{Kind: n.Gates[k].Kind, N: n.Gates[k].N}
			for _, a := range n.Gates[k].Args {
				g.Args = append(g.Args, slices.Index(stay, a))
			}
			want.Gates = append(want.Gates, g)
		}
		got, e := Drop(n)
		if e != api.OK || !same(got, want) {
			t.Fatalf("%v: %v %d, not %v", n, got, e, want)
		}
		if again, e := Drop(got); e != api.OK || !same(again, got) {
			t.Fatalf("%v, dropped again: %v %d", got, again, e)
		}
	}
}

// swept: the net in all ways that it may be swept.
func swept(t *testing.T, n api.Net) []api.Net {
	t.Helper()
	folded, a := Fold(n)
	dropped, b := Drop(n)
	both, c := Drop(folded)
	other, d := Fold(dropped)
	if a != api.OK || b != api.OK || c != api.OK || d != api.OK {
		t.Fatalf("%v: %d %d %d %d", n, a, b, c, d)
	}
	return []api.Net{folded, dropped, both, other}
}

// comes: the values of the outs, then those that registers take, Open ones too.
func comes(t *testing.T, n api.Net, regs, ins []int) []int {
	t.Helper()
	v, e := eval.Step(n, regs, ins)
	if e != api.OK {
		t.Fatalf("%v, %v %v: %d", n, regs, ins, e)
	}
	var l []int
	for _, k := range n.Outs {
		l = append(l, v[k])
	}
	for _, r := range n.Regs {
		l = append(l, v[r.Next])
	}
	return l
}

// Whatever is handed in, Open or not.
func TestF2TheSameComes(t *testing.T) {
	d := sample.Draw(31)
	nets := []api.Net{sample.Knot(), sample.Chain(), sample.Loose(), rings()}
	for i := range 300 {
		nets = append(nets, d.Net(i%3, i%4, 1+d.Below(14)))
	}
	for _, n := range nets {
		all := swept(t, n)
		for _, handed := range sample.Rows(len(n.Regs)+n.Ins, 3) {
			regs, ins := handed[:len(n.Regs)], handed[len(n.Regs):]
			want := comes(t, n, regs, ins)
			for i, m := range all {
				if got := comes(t, m, regs, ins); !slices.Equal(got, want) {
					t.Fatalf("%v, way %d: %v; %v %v: %v, not %v", n, i, m, regs, ins, got, want)
				}
			}
		}
	}
}

// A run that was settled goes as it went.
func TestF2RunsThatWereSettled(t *testing.T) {
	d := sample.Draw(37)
	settled := 0
	for i := range 400 {
		n := d.Net(i%4, 1+i%5, 2+d.Below(10))
		l := d.Values(8, 1<<n.Ins)
		outs, regs, e := tick.Run(n, l)
		if e != api.OK {
			continue
		}
		settled++
		for _, m := range swept(t, n) {
			gotOuts, gotRegs, e := tick.Run(m, l)
			if e != api.OK || !slices.EqualFunc(gotOuts, outs, slices.Equal[[]int]) || !slices.Equal(gotRegs, regs) {
				t.Fatalf("%v, swept %v: by %v %v %v %d, not %v %v", n, m, l, gotOuts, gotRegs, e, outs, regs)
			}
		}
	}
	if settled < 100 {
		t.Errorf("only %d runs were settled", settled)
	}
}

func TestP2WhatIsHandedInIsOnlyRead(t *testing.T) {
	for _, n := range []api.Net{sample.Spared(sample.Knot()), sample.Spared(rings())} {
		was := sample.Whole(n)
		Fold(n)
		Drop(n)
		if !reflect.DeepEqual(was, sample.Whole(n)) {
			t.Errorf("changed: %v", sample.Whole(n))
		}
	}
}

// spoil changes all that a net has, and what lies behind its lists.
func spoil(n api.Net) {
	for _, g := range n.Gates {
		all := g.Args[:cap(g.Args)]
		for i := range all {
			all[i] = 99
		}
	}
	gates, regs, outs := n.Gates[:cap(n.Gates)], n.Regs[:cap(n.Regs)], n.Outs[:cap(n.Outs)]
	for k := range gates {
		gates[k].Kind = 99
	}
	for k := range regs {
		regs[k].Next = 99
	}
	for k := range outs {
		outs[k] = 99
	}
}

// An answer stays while what was handed in, and other answers, are spoilt; and a later one is the same.
func TestP2P3AnswersAreNew(t *testing.T) {
	for name, call := range map[string]func(api.Net) (api.Net, api.Errno){"Fold": Fold, "Drop": Drop} {
		n := sample.Spared(rings())
		first, _ := call(n)
		second, _ := call(n)
		was := sample.Whole(first)
		spoil(second)
		spoil(n)
		if !reflect.DeepEqual(sample.Whole(first), was) {
			t.Errorf("%s: %v, and it was %v", name, first, was)
		}
		if third, e := call(sample.Spared(rings())); e != api.OK || !same(third, first) {
			t.Errorf("%s: %v %d, and it was %v", name, third, e, first)
		}
	}
}

// Each list of an answer may be changed, and grown, and no other one of it changes.
func TestP2NoTwoListsShare(t *testing.T) {
	n := api.Net{Gates: []api.Gate{{Kind: api.Not, Args: []int{0}}}, Outs: []int{1, 2, 3}}
	shared := []int{0, 0, 0}
	for range 3 {
		n.Gates = append(n.Gates, api.Gate{Kind: api.Any, Args: shared})
	}
	for name, call := range map[string]func(api.Net) (api.Net, api.Errno){"Fold": Fold, "Drop": Drop} {
		m, e := call(n)
		if e != api.OK || len(m.Gates) != 4 {
			t.Fatalf("%s: %v %d", name, m, e)
		}
		for k := 1; k < 4; k++ {
			if !slices.Equal(m.Gates[k].Args, shared) || !slices.Equal(m.Outs, n.Outs) {
				t.Errorf("%s, gate %d: %v", name, k, m)
			}
			all := append(m.Gates[k].Args, 9, 9, 9, 9)
			all[0], m.Gates[k].Args[0] = 9, 9
		}
	}
}
