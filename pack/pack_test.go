package pack

import (
	"math"
	"reflect"
	"slices"
	"testing"

	"linchpin/api"
	"linchpin/level"
	"linchpin/sample"
	"linchpin/tick"
)

const full uint64 = math.MaxUint64

func mustRefuseStep(t *testing.T, n api.Net, regs, ins []uint64, want api.Errno) {
	t.Helper()
	if outs, next, e := Step(n, regs, ins); len(outs) != 0 || len(next) != 0 || e != want {
		t.Errorf("Step of %v, %v %v: %v %v %d, not %d", n, regs, ins, outs, next, e, want)
	}
}

func mustRefuseRun(t *testing.T, n api.Net, l [][]uint64, want api.Errno) {
	t.Helper()
	if outs, e := Run(n, l); len(outs) != 0 || e != want {
		t.Errorf("Run of %v, %v: %v %d, not %d", n, l, outs, e, want)
	}
}

// instants: so many, each of the same words.
func instants(count int, words ...uint64) [][]uint64 {
	return slices.Repeat([][]uint64{words}, count)
}

// The net's errors, and that of its order, ahead of all others.
func TestH1OrdersErrorsFirst(t *testing.T) {
	loose := sample.Loose()
	loose.Regs = make([]api.Store, 1)
	faults := append(sample.Faults(), sample.Fault{Net: sample.Knot(), Err: api.ErrRound}, sample.Fault{Net: loose, Err: api.ErrRound})
	minus := sample.Chain()
	minus.Ins = math.MinInt
	faults = append(faults, sample.Fault{Net: minus, Err: api.ErrRange})
	for _, f := range faults {
		for _, l := range [][]uint64{nil, {1}, {1, 2}} {
			mustRefuseStep(t, f.Net, l, []uint64{full}, f.Err)
			mustRefuseStep(t, f.Net, []uint64{full}, l, f.Err)
			mustRefuseRun(t, f.Net, instants(0), f.Err)
			mustRefuseRun(t, f.Net, instants(1, l...), f.Err)
			mustRefuseRun(t, f.Net, instants(api.MaxTimes+1, l...), f.Err)
		}
	}
}

func TestH1StepsCounts(t *testing.T) {
	n := sample.Chain()
	n.Ins = 2
	n.Regs = make([]api.Store, 2)
	for regs := range 4 {
		for ins := range 4 {
			if regs == 2 && ins == 2 {
				continue
			}
			mustRefuseStep(t, n, make([]uint64, regs), make([]uint64, ins), api.ErrForm)
		}
	}
	mustRefuseStep(t, api.Net{}, []uint64{0}, nil, api.ErrForm)
	mustRefuseStep(t, api.Net{}, nil, []uint64{0}, api.ErrForm)
}

// How many instants, then how many words each has, whichever it is.
func TestH1RunsCounts(t *testing.T) {
	n := sample.Chain()
	for _, words := range [][]uint64{nil, {1}, {1, 2}} {
		mustRefuseRun(t, n, instants(api.MaxTimes+1, words...), api.ErrMany)
		mustRefuseRun(t, n, instants(1000, words...), api.ErrMany)
	}
	for at := range 4 {
		for _, words := range [][]uint64{nil, {}, {1, 2}, {1, 2, 3, 4}} {
			l := instants(4, 1)
			l[at] = words
			mustRefuseRun(t, n, l, api.ErrForm)
		}
	}
	mustRefuseRun(t, api.Net{}, instants(1, 0), api.ErrForm)
	if outs, e := Run(n, instants(api.MaxTimes, 1)); e != api.OK || len(outs) != api.MaxTimes {
		t.Errorf("the longest: %v %d", outs, e)
	}
}

// kinds: a gate of each kind, and of none where it may be.
func kinds(outs ...int) api.Net {
	return api.Net{
		Ins: 2,
		Gates: []api.Gate{
			{Kind: api.Never},
			{Kind: api.Always},
			{Kind: api.In, N: 1},
			{Kind: api.Reg, N: 1},
			{Kind: api.All, Args: []int{2, 3, 8}},
			{Kind: api.Any, Args: []int{2, 3, 9}},
			{Kind: api.All},
			{Kind: api.Any},
			{Kind: api.In},
			{Kind: api.Reg},
			{Kind: api.Not, Args: []int{3}},
			{Kind: api.Not, Args: []int{0}},
		},
		Regs: []api.Store{{Next: 2}, {Next: 10}},
		Outs: outs,
	}
}

func TestH1WordOfEachKind(t *testing.T) {
	regs, ins := []uint64{1 << 63, 0xff00}, []uint64{0x8ff0, 0xf0f0}
	want := []uint64{0, full, 0xf0f0, 0xff00, 0x8000, 1<<63 | 0xfff0, full, 0, 0x8ff0, 1 << 63, ^uint64(0xff00), full}
	for k, w := range want {
		outs, next, e := Step(kinds(k, 1, k), regs, ins)
		if e != api.OK || !slices.Equal(outs, []uint64{w, full, w}) || !slices.Equal(next, []uint64{0xf0f0, ^uint64(0xff00)}) {
			t.Errorf("gate %d: %x %x %d, not %x", k, outs, next, e, w)
		}
	}
}

func TestH1StepOfKnown(t *testing.T) {
	for _, c := range []struct {
		n                     api.Net
		regs, ins, outs, next []uint64
	}{
		{api.Net{}, nil, nil, nil, nil},
		{api.Net{}, []uint64{}, []uint64{}, nil, nil},
		{sample.Chain(), []uint64{6}, []uint64{5}, []uint64{3, 6}, []uint64{3}},
		{sample.Chain(), []uint64{full}, []uint64{1 << 63}, []uint64{full >> 1, full}, []uint64{full >> 1}},
		{api.Net{Ins: 1, Regs: []api.Store{{Next: 0}}, Gates: make([]api.Gate, 1)}, []uint64{7}, []uint64{7}, nil, []uint64{0}},
	} {
		outs, next, e := Step(c.n, c.regs, c.ins)
		if e != api.OK || !slices.Equal(outs, c.outs) || !slices.Equal(next, c.next) {
			t.Errorf("%v, %x %x: %x %x %d", c.n, c.regs, c.ins, outs, next, e)
		}
	}
}

// In the beginning all 64 are alike, whatever a register begins with.
func TestH1RunOfKnown(t *testing.T) {
	begun := sample.Chain()
	begun.Regs[0].Begin = true
	held := api.Net{Gates: []api.Gate{{Kind: api.Reg}, {Kind: api.Reg, N: 1}}, Regs: []api.Store{{Begin: true, Next: 1}, {Next: 0}}, Outs: []int{0, 1}}
	noOuts := sample.Chain()
	noOuts.Outs = nil
	for name, c := range map[string]struct {
		n       api.Net
		l, want [][]uint64
	}{
		"nothing":           {api.Net{}, nil, nil},
		"nothing, twice":    {api.Net{}, instants(2), instants(2)},
		"no instant":        {sample.Chain(), nil, nil},
		"no instant, empty": {sample.Chain(), [][]uint64{}, nil},
		"a chain":           {sample.Chain(), [][]uint64{{5}, {1}, {0}}, [][]uint64{{5, 0}, {4, 5}, {4, 4}}},
		"a chain, begun":    {begun, [][]uint64{{5}, {1}}, [][]uint64{{full - 5, full}, {full - 4, full - 5}}},
		"two that turn":     {held, instants(3), [][]uint64{{full, 0}, {0, full}, {full, 0}}},
		"no outs":           {noOuts, instants(3, full), instants(3)},
	} {
		if outs, e := Run(c.n, c.l); e != api.OK || !slices.EqualFunc(outs, c.want, slices.Equal[[]uint64]) {
			t.Errorf("%s: %x %d, not %x", name, outs, e, c.want)
		}
	}
}

// bits k of the words, as a row of values.
func bits(words []uint64, k int) []int {
	l := make([]int, len(words))
	for i, w := range words {
		l[i] = int(w >> k & 1)
	}
	return l
}

// numbers of the inputs of run k, an instant each.
func numbers(l [][]uint64, k int) []int {
	var of []int
	for _, words := range l {
		number := 0
		for i, v := range bits(words, k) {
			number += v << i
		}
		of = append(of, number)
	}
	return of
}

// Bit k of what comes is what comes of the bits k alone, whatever the other bits are.
func TestH2StepIsDoOfEachBit(t *testing.T) {
	d := sample.Draw(47)
	for i := range 500 {
		n := d.Ordered(i%4, i%5, 1+d.Below(25))
		regs, ins := d.Words(len(n.Regs)), d.Words(n.Ins)
		outs, next, e := Step(n, regs, ins)
		for k := range 64 {
			wantOuts, wantNext, f := tick.Do(n, bits(regs, k), bits(ins, k))
			if e != api.OK || f != api.OK || !slices.Equal(bits(outs, k), wantOuts) || !slices.Equal(bits(next, k), wantNext) {
				t.Fatalf("%v, run %d: %x %x: %x %x %d, not %v %v %d", n, k, regs, ins, outs, next, e, wantOuts, wantNext, f)
			}
		}
	}
}

func TestH2RunIsThatOfEachBit(t *testing.T) {
	d := sample.Draw(53)
	for i := range 300 {
		n := d.Ordered(i%4, i%7, 1+d.Below(25))
		var l [][]uint64
		for range d.Below(9) {
			l = append(l, d.Words(n.Ins))
		}
		outs, e := Run(n, l)
		if e != api.OK || len(outs) != len(l) {
			t.Fatalf("%v: %x %d", n, outs, e)
		}
		for k := range 64 {
			want, _, f := tick.Run(n, numbers(l, k))
			for at := range want {
				if !slices.Equal(bits(outs[at], k), want[at]) {
					t.Fatalf("%v, run %d, instant %d: %x, not %v", n, k, at, outs[at], want[at])
				}
			}
			if f != api.OK {
				t.Fatalf("%v, run %d: %d", n, k, f)
			}
		}
	}
}

// Step by Step, each from what the one ahead of it left, is Run; and the greatest nets, for as long as may be.
func TestH2RunIsStepByStep(t *testing.T) {
	d := sample.Draw(59)
	for i := range 20 {
		n := d.Ordered(api.MaxIns, api.MaxRegs, api.MaxGates-i)
		var l, want [][]uint64
		regs := make([]uint64, len(n.Regs))
		for k, r := range n.Regs {
			if r.Begin {
				regs[k] = full
			}
		}
		for range api.MaxTimes {
			l = append(l, d.Words(n.Ins))
			outs, next, e := Step(n, regs, l[len(l)-1])
			if e != api.OK {
				t.Fatalf("%v: %d", n, e)
			}
			want, regs = append(want, outs), next
		}
		if outs, e := Run(n, l); e != api.OK || !slices.EqualFunc(outs, want, slices.Equal[[]uint64]) {
			t.Fatalf("%v: %x %d, not %x", n, outs, e, want)
		}
	}
}

// Whatever level.Order refuses is refused with its error, and nothing else is.
func TestH1AsOrderRefuses(t *testing.T) {
	d := sample.Draw(61)
	for i := range 1000 {
		n := d.Net(i%4, i%3, 1+d.Below(8))
		_, want := level.Order(n)
		_, _, e := Step(n, d.Words(len(n.Regs)), d.Words(n.Ins))
		_, f := Run(n, [][]uint64{d.Words(n.Ins)})
		if e != want || f != want {
			t.Fatalf("%v: %d %d, not %d", n, e, f, want)
		}
	}
}

func TestP2WhatIsHandedInIsOnlyRead(t *testing.T) {
	n := sample.Spared(sample.Chain())
	was := sample.Whole(n)
	regs, ins, one := []uint64{5, 77}, []uint64{6, 78}, []uint64{7, 79}
	l := [][]uint64{ins[:1], one[:1], ins[:1], {99}}
	Step(n, regs[:1], ins[:1])
	Run(n, l[:3])
	if !reflect.DeepEqual(was, sample.Whole(n)) || !slices.Equal(regs, []uint64{5, 77}) || !slices.Equal(ins, []uint64{6, 78}) || !slices.Equal(one, []uint64{7, 79}) || l[3][0] != 99 {
		t.Errorf("changed: %v %v %v %v %v", sample.Whole(n), regs, ins, one, l)
	}
}

// Each list of an answer may be changed, and grown, and no other one of it changes, nor a later answer, nor what was handed in.
func TestP2P3AnswersAreNew(t *testing.T) {
	n := api.Net{Ins: 2, Gates: []api.Gate{{Kind: api.In}, {Kind: api.In, N: 1}}, Regs: []api.Store{{Next: 0}, {Next: 1}}, Outs: []int{0, 1}}
	for range 2 {
		regs, ins := []uint64{0, 0}, []uint64{5, 6}
		outs, next, e := Step(n, regs, ins)
		outs[0] = 9
		if e != api.OK || !slices.Equal(next, []uint64{5, 6}) {
			t.Errorf("%v %v %d", outs, next, e)
		}
		next[0] = 8
		many, e := Run(n, [][]uint64{ins, ins, ins})
		for k, l := range many {
			if e != api.OK || !slices.Equal(l, []uint64{5, 6}) {
				t.Errorf("instant %d: %v %d", k, l, e)
			}
			all := append(l, 9, 9, 9)
			all[0], l[0] = 9, 9
		}
		if !slices.Equal(regs, []uint64{0, 0}) || !slices.Equal(ins, []uint64{5, 6}) {
			t.Errorf("changed: %v %v", regs, ins)
		}
	}
}
