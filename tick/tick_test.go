package tick

import (
	"math"
	"reflect"
	"slices"
	"testing"

	"linchpin/api"
	"linchpin/eval"
	"linchpin/net"
	"linchpin/sample"
)

func mustRefuseDo(t *testing.T, n api.Net, regs, ins []int, want api.Errno) {
	t.Helper()
	if outs, next, e := Do(n, regs, ins); len(outs) != 0 || len(next) != 0 || e != want {
		t.Errorf("Do of %v, %v %v: %v %v %d, not %d", n, regs, ins, outs, next, e, want)
	}
}

func mustRefuseRun(t *testing.T, n api.Net, l []int, want api.Errno) {
	t.Helper()
	if outs, regs, e := Run(n, l); len(outs) != 0 || len(regs) != 0 || e != want {
		t.Errorf("Run of %v, %v: %v %v %d, not %d", n, l, outs, regs, e, want)
	}
}

func TestD1StepsErrorsFirst(t *testing.T) {
	for _, f := range sample.Faults() {
		for _, l := range [][]int{nil, {api.Open}, {9}, {0, 0, 0}} {
			mustRefuseDo(t, f.Net, l, l, f.Err)
		}
	}
	open, loose := []int{api.Open}, sample.Loose()
	loose.Regs = make([]api.Store, 1)
	for _, n := range []api.Net{sample.Knot(), loose} {
		for _, l := range [][]int{nil, {api.No, api.No}, {9, 9}, {api.Open, api.Open}} {
			mustRefuseDo(t, n, l, open, api.ErrForm)
			mustRefuseDo(t, n, open, l, api.ErrForm)
		}
		for _, bad := range []int{-1, 3, math.MaxInt} {
			mustRefuseDo(t, n, []int{bad}, open, api.ErrRange)
			mustRefuseDo(t, n, open, []int{bad}, api.ErrRange)
		}
	}
}

func TestD1DoOfKnown(t *testing.T) {
	cross := api.Net{Ins: 2, Gates: []api.Gate{{Kind: api.In, N: 1}, {Kind: api.In}, {Kind: api.Reg, N: 1}, {Kind: api.Reg}}, Regs: []api.Store{{Next: 1, Begin: true}, {Next: 3}}, Outs: []int{2, 0, 2}}
	for _, c := range []struct {
		n                     api.Net
		regs, ins, outs, next []int
	}{
		{api.Net{}, nil, nil, nil, nil},
		{api.Net{}, []int{}, []int{}, nil, nil},
		{sample.Knot(), []int{0}, []int{0}, []int{0, 0}, []int{0}},
		{sample.Knot(), []int{0}, []int{1}, []int{1, 0}, []int{1}},
		{sample.Knot(), []int{1}, []int{0}, []int{1, 1}, []int{1}},
		{sample.Knot(), []int{1}, []int{1}, []int{0, 1}, []int{0}},
		{sample.Loose(), nil, []int{1}, []int{1}, nil},
		{cross, []int{0, 1}, []int{1, 0}, []int{1, 0, 1}, []int{1, 0}},
		{cross, []int{1, 0}, []int{0, 1}, []int{0, 1, 0}, []int{0, 1}},
	} {
		outs, next, e := Do(c.n, c.regs, c.ins)
		if e != api.OK || !slices.Equal(outs, c.outs) || !slices.Equal(next, c.next) {
			t.Errorf("%v, %v %v: %v %v %d", c.n, c.regs, c.ins, outs, next, e)
		}
	}
}

// Any gate that is Open, wherever it stands, and if nobody looks at it; not what no gate has.
func TestD1AnyGateOpen(t *testing.T) {
	mustRefuseDo(t, sample.Loose(), nil, []int{api.No}, api.ErrOpen)
	mustRefuseDo(t, sample.Knot(), []int{api.Open}, []int{api.No}, api.ErrOpen)
	for k := range 5 {
		n := api.Net{Gates: make([]api.Gate, 5), Regs: []api.Store{{Next: 0}}, Outs: []int{1}}
		n.Gates[k] = api.Gate{Kind: api.Not, Args: []int{k}}
		mustRefuseDo(t, n, []int{api.No}, nil, api.ErrOpen)
	}
	n := api.Net{Ins: 1, Gates: []api.Gate{{Kind: api.Always}}, Regs: make([]api.Store, 1), Outs: []int{0}}
	open := []int{api.Open}
	if outs, next, e := Do(n, open, open); e != api.OK || !slices.Equal(outs, []int{api.Yes}) || !slices.Equal(next, []int{api.Yes}) {
		t.Errorf("%v %v %d", outs, next, e)
	}
}

func TestD1DoOfDrawnNets(t *testing.T) {
	d := sample.Draw(11)
	for i := range 2000 {
		n := d.Net(i%4, i%3, 1+d.Below(8))
		regs, ins := d.Values(len(n.Regs), 2+i%2), d.Values(n.Ins, 2+i/2%2)
		v, _ := eval.Step(n, regs, ins)
		if slices.Contains(v, api.Open) {
			mustRefuseDo(t, n, regs, ins, api.ErrOpen)
			continue
		}
		var wantOuts, wantNext []int
		for _, k := range n.Outs {
			wantOuts = append(wantOuts, v[k])
		}
		for _, r := range n.Regs {
			wantNext = append(wantNext, v[r.Next])
		}
		if outs, next, e := Do(n, regs, ins); e != api.OK || !slices.Equal(outs, wantOuts) || !slices.Equal(next, wantNext) {
			t.Fatalf("%v, %v %v: %v %v %d", n, regs, ins, outs, next, e)
		}
	}
}

// A net's errors, then how many, then which numbers, then what is Open, each ahead of all that is told behind it.
func TestD2FirstError(t *testing.T) {
	long := make([]int, api.MaxTimes+1)
	longAndBad := slices.Repeat([]int{2}, api.MaxTimes+1)
	for _, f := range sample.Faults() {
		for _, l := range [][]int{nil, {0}, {2}, long, longAndBad} {
			mustRefuseRun(t, f.Net, l, f.Err)
		}
	}
	for _, n := range []api.Net{sample.Knot(), sample.Loose()} {
		mustRefuseRun(t, n, long, api.ErrMany)
		mustRefuseRun(t, n, longAndBad, api.ErrMany)
		mustRefuseRun(t, n, make([]int, 100000), api.ErrMany)
		for _, bad := range []int{-1, 2, 3, 256, math.MinInt, math.MaxInt} {
			for _, l := range [][]int{{bad}, {0, bad}, {bad, 0}, {1, 0, bad, 1}} {
				mustRefuseRun(t, n, l, api.ErrRange)
			}
		}
	}
	for _, l := range [][]int{{0}, {1, 0}, {1, 0, 1}, {1, 1, 1, 0}, {0, 0}} {
		mustRefuseRun(t, sample.Loose(), l, api.ErrOpen)
	}
}

// As many numbers as the inputs have: bit k is input k.
func TestD2NumbersAreBits(t *testing.T) {
	for ins := range api.MaxIns + 1 {
		n := api.Net{Ins: ins}
		for k := range ins {
			n.Gates = append(n.Gates, api.Gate{Kind: api.In, N: k})
			n.Outs = append(n.Outs, k)
		}
		for number := range 1 << ins {
			var want []int
			for k := range ins {
				want = append(want, number/(1<<k)%2)
			}
			outs, regs, e := Run(n, []int{0, number})
			if e != api.OK || len(outs) != 2 || !slices.Equal(outs[0], make([]int, ins)) || !slices.Equal(outs[1], want) || len(regs) != 0 {
				t.Errorf("%d of %d: %v %v %d", number, ins, outs, regs, e)
			}
		}
		mustRefuseRun(t, n, []int{1 << ins}, api.ErrRange)
		mustRefuseRun(t, n, []int{-1}, api.ErrRange)
	}
}

func TestD2RunOfKnot(t *testing.T) {
	for _, c := range []struct {
		begin bool
		l     []int
		outs  [][]int
		regs  []int
	}{
		{false, nil, [][]int{}, []int{0}},
		{true, []int{}, [][]int{}, []int{1}},
		{false, []int{1, 0, 1}, [][]int{{1, 0}, {1, 1}, {0, 1}}, []int{0}},
		{true, []int{0, 1, 1}, [][]int{{1, 1}, {0, 1}, {1, 0}}, []int{1}},
	} {
		n := sample.Knot()
		n.Regs[0].Begin = c.begin
		outs, regs, e := Run(n, c.l)
		if e != api.OK || !slices.EqualFunc(outs, c.outs, slices.Equal[[]int]) || !slices.Equal(regs, c.regs) {
			t.Errorf("%v %v: %v %v %d", c.begin, c.l, outs, regs, e)
		}
	}
	outs, regs, e := Run(sample.Knot(), slices.Repeat([]int{1}, api.MaxTimes))
	if e != api.OK || len(outs) != api.MaxTimes || !slices.Equal(outs[59], []int{0, 1}) || !slices.Equal(regs, []int{0}) {
		t.Errorf("the longest: %v %v %d", outs, regs, e)
	}
}

// Do, instant by instant, each from where the one ahead of it ended.
func TestD2RunIsDoByDo(t *testing.T) {
	d := sample.Draw(13)
	for i := range 1000 {
		n := d.Net(i%4, 1+i%3, 1+d.Below(8))
		l := d.Values(d.Below(9), 1<<n.Ins)
		regs, _ := net.Begin(n)
		var outs [][]int
		var e api.Errno
		for _, number := range l {
			ins := make([]int, n.Ins)
			for k := range ins {
				ins[k] = number >> k & 1
			}
			var out []int
			if out, regs, e = Do(n, regs, ins); e != api.OK {
				outs = nil
				break
			}
			outs = append(outs, out)
		}
		gotOuts, gotRegs, f := Run(n, l)
		if e != f || !slices.EqualFunc(gotOuts, outs, slices.Equal[[]int]) || !slices.Equal(gotRegs, regs) {
			t.Fatalf("%v, %v: %v %v %d, not %v %v %d", n, l, gotOuts, gotRegs, f, outs, regs, e)
		}
	}
}

func TestP2WhatIsHandedInIsOnlyRead(t *testing.T) {
	n := sample.Spared(sample.Knot())
	was := sample.Whole(n)
	regs, ins, l := []int{api.Yes, 77}, []int{api.No, 78}, []int{1, 0, 1, 79}
	Do(n, regs[:1], ins[:1])
	Run(n, l[:3])
	if !reflect.DeepEqual(was, sample.Whole(n)) || !slices.Equal(regs, []int{api.Yes, 77}) || !slices.Equal(ins, []int{api.No, 78}) || !slices.Equal(l, []int{1, 0, 1, 79}) {
		t.Errorf("changed: %v %v %v %v", sample.Whole(n), regs, ins, l)
	}
}

// Each list of an answer may be changed, and grown, and no other one of it changes, nor a later answer.
func TestP2P3AnswersAreNew(t *testing.T) {
	n := sample.Knot()
	n.Outs = []int{6, 6, 6}
	for range 2 {
		outs, regs, e := Run(n, []int{1, 0, 1})
		for k, want := range [][]int{{1, 1, 1}, {1, 1, 1}, {0, 0, 0}} {
			if e != api.OK || !slices.Equal(outs[k], want) {
				t.Errorf("instant %d: %v %d", k, outs[k], e)
			}
			all := append(outs[k], 9, 9, 9)
			all[0], outs[k][0] = 9, 9
		}
		if !slices.Equal(regs, []int{0}) {
			t.Errorf("%v", regs)
		}
		regs[0] = 9
		out, next, e := Do(n, []int{0}, []int{1})
		if e != api.OK || !slices.Equal(out, []int{1, 1, 1}) || !slices.Equal(next, []int{1}) {
			t.Errorf("%v %v %d", out, next, e)
		}
		out[0] = 9
		if next[0] = 8; append(next, 9)[0] != 8 || out[0] != 9 {
			t.Errorf("%v %v", out, next)
		}
	}
	begin := []int{api.Yes}
	if _, next, _ := Do(sample.Knot(), begin, []int{0}); &next[0] == &begin[0] {
		t.Error("the registers are those that were handed in")
	}
}
