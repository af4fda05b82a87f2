package reach

import (
	"reflect"
	"slices"
	"testing"

	"linchpin/api"
	"linchpin/sample"
	"linchpin/tick"
)

func mustRefuseStates(t *testing.T, name string, n api.Net, want api.Errno) {
	t.Helper()
	if states, e := States(n); len(states) != 0 || e != want {
		t.Errorf("%s: States %v %d, not %d", name, states, e, want)
	}
}

func mustBad(t *testing.T, name string, n api.Net, way []int, is bool, want api.Errno) {
	t.Helper()
	if l, bad, e := Bad(n); bad != is || e != want || !slices.Equal(l, way) {
		t.Errorf("%s: Bad %v %v %d, not %v %v %d", name, l, bad, e, way, is, want)
	}
}

func add(n *api.Net, kind int, args ...int) int {
	n.Gates = append(n.Gates, api.Gate{Kind: kind, Args: args})
	return len(n.Gates) - 1
}

func addIn(n *api.Net, k int) int {
	n.Gates = append(n.Gates, api.Gate{Kind: api.In, N: k})
	return len(n.Gates) - 1
}

// clock: so many registers, which count up from 0 on, round; the bit k is register k.
func clock(bits int) api.Net {
	var n api.Net
	for k := range bits {
		n.Gates = append(n.Gates, api.Gate{Kind: api.Reg, N: k})
	}
	carry := add(&n, api.Always)
	for k := range bits {
		off, stop := add(&n, api.Not, k), add(&n, api.Not, carry)
		next := add(&n, api.Any, add(&n, api.All, k, stop), add(&n, api.All, off, carry))
		n.Regs = append(n.Regs, api.Store{Next: next})
		carry = add(&n, api.All, k, carry)
	}
	return n
}

// openAt: a gate that is Open while the registers, as bits, are that number, and the other gates are Yes.
func openAt(n *api.Net, number int, others ...int) {
	args := others
	for k := range n.Regs {
		at := add(n, api.Reg)
		n.Gates[at].N = k
		if number>>k&1 == 0 {
			at = add(n, api.Not, at)
		}
		args = append(args, at)
	}
	is := add(n, api.All, args...)
	add(n, api.All, is, is+1)
}

func rowOf(number, count int) []int {
	l := make([]int, count)
	for k := range l {
		l[k] = number >> k & 1
	}
	return l
}

func TestE1NetsErrors(t *testing.T) {
	for _, f := range sample.Faults() {
		mustRefuseStates(t, "a fault", f.Net, f.Err)
		mustBad(t, "a fault", f.Net, nil, false, f.Err)
	}
}

func TestE1StatesOfKnown(t *testing.T) {
	begins := sample.Knot()
	begins.Regs[0].Begin = true
	shift := api.Net{Ins: 1, Gates: []api.Gate{{Kind: api.In}, {Kind: api.Reg}}, Regs: []api.Store{{Next: 0}, {Next: 1}}}
	two := api.Net{Ins: 2, Gates: []api.Gate{{Kind: api.In, N: 0}, {Kind: api.In, N: 1}}, Regs: []api.Store{{Next: 0, Begin: true}, {Next: 1, Begin: true}}}
	for name, c := range map[string]struct {
		n    api.Net
		want [][]int
	}{
		"nothing":        {api.Net{}, [][]int{{}}},
		"no registers":   {api.Net{Ins: 3, Gates: make([]api.Gate, 1)}, [][]int{{}}},
		"a knot":         {sample.Knot(), [][]int{{0}, {1}}},
		"a knot, begun":  {begins, [][]int{{1}, {0}}},
		"one by one":     {shift, [][]int{{0, 0}, {1, 0}, {0, 1}, {1, 1}}},
		"inputs rise":    {two, [][]int{{1, 1}, {0, 0}, {1, 0}, {0, 1}}},
		"three, a clock": {clock(3), [][]int{{0, 0, 0}, {1, 0, 0}, {0, 1, 0}, {1, 1, 0}, {0, 0, 1}, {1, 0, 1}, {0, 1, 1}, {1, 1, 1}}},
	} {
		if states, e := States(c.n); e != api.OK || !slices.EqualFunc(states, c.want, slices.Equal[[]int]) {
			t.Errorf("%s: %v %d, not %v", name, states, e, c.want)
		}
		mustBad(t, name, c.n, nil, false, api.OK)
	}
}

// All registers count, the last ones too, and Begin is the first state.
func TestE1AllRegisters(t *testing.T) {
	n := api.Net{Ins: 1, Gates: []api.Gate{{Kind: api.In}, {Kind: api.Always}, {Kind: api.Never}}, Regs: slices.Repeat([]api.Store{{Begin: true, Next: 2}}, api.MaxRegs)}
	n.Regs[18].Next, n.Regs[19].Next = 1, 0
	begin, off, on := slices.Repeat([]int{1}, 20), make([]int, 20), make([]int, 20)
	off[18], on[18], on[19] = 1, 1, 1
	if states, e := States(n); e != api.OK || !slices.EqualFunc(states, [][]int{begin, off, on}, slices.Equal[[]int]) {
		t.Errorf("%v %d", states, e)
	}
}

// As many states as there may be; the ways to the last ones are longer than a run may be.
func TestE1AsManyAsThereMayBe(t *testing.T) {
	states, e := States(clock(6))
	if e != api.OK || len(states) != api.MaxStates {
		t.Fatalf("%d states, %d", len(states), e)
	}
	for number, state := range states {
		if !slices.Equal(state, rowOf(number, 6)) {
			t.Errorf("state %d: %v", number, state)
		}
	}
	mustBad(t, "a clock of 6", clock(6), nil, false, api.OK)
	mustRefuseStates(t, "a clock of 7", clock(7), api.ErrMany)
	mustBad(t, "a clock of 7", clock(7), nil, false, api.ErrMany)
	mustRefuseStates(t, "a clock of 20", clock(20), api.ErrMany)
	mustBad(t, "a clock of 20", clock(20), nil, false, api.ErrMany)
}

// The last register is never on, or is when the others begin anew, which is one state more.
func TestE1OneMoreThanThereMayBe(t *testing.T) {
	never, once := clock(7), clock(7)
	never.Regs[6].Next = add(&never, api.Never)
	once.Regs[6].Next = add(&once, api.All, 0, 1, 2, 3, 4, 5)
	if states, e := States(never); e != api.OK || len(states) != api.MaxStates {
		t.Errorf("64: %d %d", len(states), e)
	}
	mustRefuseStates(t, "65", once, api.ErrMany)
	mustBad(t, "65", once, nil, false, api.ErrMany)
}

// The clock of 7 meets ErrMany as it leaves state 63.
func TestE1E2WhicheverIsMetFirst(t *testing.T) {
	for _, at := range []int{0, 1, 5, 60, 61, 62, 63} {
		n := clock(7)
		openAt(&n, at)
		mustRefuseStates(t, "open ahead of the 65th", n, api.ErrOpen)
		mustBad(t, "open ahead of the 65th", n, make([]int, at+1), true, api.OK)
	}
	for _, at := range []int{64, 65, 127} {
		n := clock(7)
		openAt(&n, at)
		mustRefuseStates(t, "open behind the 65th", n, api.ErrMany)
		mustBad(t, "open behind the 65th", n, nil, false, api.ErrMany)
	}
	n := clock(6)
	openAt(&n, 63)
	mustRefuseStates(t, "open at the last", n, api.ErrOpen)
	mustBad(t, "open at the last", n, make([]int, 64), true, api.OK)
}

// In one state, by one of two inputs: the lower number is met first.
func TestE1E2WhicheverInputIsFirst(t *testing.T) {
	n := clock(7)
	n.Ins = 1
	in := addIn(&n, 0)
	openAt(&n, 63, in)
	mustRefuseStates(t, "the 65th by 0, open by 1", n, api.ErrMany)
	mustBad(t, "the 65th by 0, open by 1", n, nil, false, api.ErrMany)
	n = clock(7)
	n.Ins = 1
	in = addIn(&n, 0)
	openAt(&n, 63, add(&n, api.Not, in))
	mustRefuseStates(t, "open by 0, the 65th by 1", n, api.ErrOpen)
	mustBad(t, "open by 0, the 65th by 1", n, make([]int, 64), true, api.OK)
}

func TestE2BadOfKnown(t *testing.T) {
	mustRefuseStates(t, "loose", sample.Loose(), api.ErrOpen)
	mustBad(t, "loose", sample.Loose(), []int{0}, true, api.OK)
	for number := range 8 {
		n := api.Net{Ins: 3}
		var args []int
		for k := range 3 {
			at := addIn(&n, k)
			if number>>k&1 == 0 {
				at = add(&n, api.Not, at)
			}
			args = append(args, at)
		}
		is := add(&n, api.All, args...)
		add(&n, api.All, is, is+1)
		mustBad(t, "by one number", n, []int{number}, true, api.OK)
	}
	shift := api.Net{Ins: 2, Gates: []api.Gate{{Kind: api.In, N: 1}, {Kind: api.Reg, N: 0}, {Kind: api.Reg, N: 1}, {Kind: api.Reg, N: 2}}, Regs: []api.Store{{Next: 0}, {Next: 1}, {Next: 2}}}
	is := add(&shift, api.All, 1, add(&shift, api.Not, 2), 3, addIn(&shift, 0))
	add(&shift, api.All, is, is+1)
	mustBad(t, "a row of inputs", shift, []int{2, 0, 2, 1}, true, api.OK)
}

// inOrder: all lists of numbers, the shorter ones first, then as they rise.
func inOrder(ins, most int) [][]int {
	all := [][]int{{}}
	for from := 0; most > 0; most-- {
		to := len(all)
		for _, l := range all[from:to] {
			for number := range 1 << ins {
				all = append(all, append(slices.Clone(l), number))
			}
		}
		from = to
	}
	return all
}

// Held against all runs there are, as long as the states may be far apart.
func TestE1E2E3AgainstAllRuns(t *testing.T) {
	d := sample.Draw(17)
	found := map[api.Errno]int{}
	for i := range 400 {
		ins, regs := i%3, 1+d.Below(2)
		n := d.Net(ins, regs, 2+d.Below(7))
		var want [][]int
		var bad []int
		for _, l := range inOrder(ins, 1<<regs) {
			_, state, e := tick.Run(n, l)
			if e == api.ErrOpen && bad == nil {
				bad = l
			}
			isState := func(s []int) bool { return slices.Equal(s, state) }
			if e == api.OK && !slices.ContainsFunc(want, isState) {
				want = append(want, state)
			}
		}
		states, e := States(n)
		found[e]++
		if bad != nil {
			mustRefuseStates(t, "drawn", n, api.ErrOpen)
			mustBad(t, "drawn", n, bad, true, api.OK)
			continue
		}
		mustBad(t, "drawn", n, nil, false, api.OK)
		if e != api.OK || !slices.EqualFunc(states, want, slices.Equal[[]int]) {
			t.Fatalf("%v: %v %d, not %v", n, states, e, want)
		}
	}
	if found[api.OK] < 50 || found[api.ErrOpen] < 50 {
		t.Errorf("too few of one kind: %v", found)
	}
}

// Great nets: if States has no error, no run has ErrOpen, and each ends in one of the states; else Bad tells a run that has it, and by all but its last number there is none.
func TestE3OfGreatNets(t *testing.T) {
	d := sample.Draw(19)
	for i := range 300 {
		n := d.Net(i%4, 1+d.Below(5), 5+d.Below(20))
		states, e := States(n)
		way, bad, f := Bad(n)
		if (e == api.ErrOpen) != bad || e == api.OK && f != api.OK || e == api.ErrMany && f != e {
			t.Fatalf("%v: %d, %v %d", n, e, bad, f)
		}
		if bad {
			_, _, last := tick.Run(n, way)
			_, _, ahead := tick.Run(n, way[:len(way)-1])
			if last != api.ErrOpen || ahead != api.OK {
				t.Fatalf("%v: by %v %d, then %d", n, way, ahead, last)
			}
			continue
		}
		for range 20 {
			_, state, g := tick.Run(n, d.Values(d.Below(api.MaxTimes+1), 1<<n.Ins))
			isState := func(s []int) bool { return slices.Equal(s, state) }
			if g != api.OK || e == api.OK && !slices.ContainsFunc(states, isState) {
				t.Fatalf("%v: %v %d, of %v", n, state, g, states)
			}
		}
	}
}

func TestP2WhatIsHandedInIsOnlyRead(t *testing.T) {
	for _, n := range []api.Net{sample.Spared(sample.Knot()), sample.Spared(sample.Loose())} {
		was := sample.Whole(n)
		States(n)
		Bad(n)
		if !reflect.DeepEqual(was, sample.Whole(n)) {
			t.Errorf("changed: %v", sample.Whole(n))
		}
	}
}

// Each list of an answer may be changed, and grown, and no other one of it changes, nor a later answer.
func TestP2P3AnswersAreNew(t *testing.T) {
	for range 2 {
		states, e := States(clock(4))
		for number, state := range states {
			if e != api.OK || !slices.Equal(state, rowOf(number, 4)) {
				t.Errorf("state %d: %v %d", number, state, e)
			}
			all := append(state, 9, 9, 9, 9)
			all[0], state[0] = 9, 9
		}
		n := clock(4)
		openAt(&n, 5)
		way, _, _ := Bad(n)
		if !slices.Equal(way, make([]int, 6)) {
			t.Errorf("%v", way)
		}
		way[0] = 9
	}
}
