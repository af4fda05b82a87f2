package forge

import (
	"math"
	"reflect"
	"slices"
	"testing"

	"linchpin/api"
	"linchpin/level"
	"linchpin/net"
	"linchpin/pack"
	"linchpin/row"
	"linchpin/sample"
	"linchpin/sweep"
	"linchpin/tick"
	"linchpin/walk"
)

// mostForks: the longest program has one leaf more than forks.
const mostForks = (api.MaxNodes - 1) / 2

// inputs: how many numbers of inputs there are.
const inputs = 1 << api.MaxIns

// Nodes of tests, by short names.
var (
	nothing, pause, halt = api.Node{Kind: api.Nothing}, api.Node{Kind: api.Pause}, api.Node{Kind: api.Halt}
	putA, putB, putC     = api.Node{Kind: api.Emit, Sig: 0}, api.Node{Kind: api.Emit, Sig: 1}, api.Node{Kind: api.Emit, Sig: 2}
	awaitX, awaitY       = api.Node{Kind: api.Await, Sig: 0}, api.Node{Kind: api.Await, Sig: 1}
	seq, par             = api.Node{Kind: api.Seq}, api.Node{Kind: api.Par}
	ifX, wasA            = api.Node{Kind: api.If, Sig: 0}, api.Node{Kind: api.Was, Sig: 0}
)

// told: what was put out at each instant, written as A, B, C, with a blank behind each instant.
func told(outs [][]int) string {
	s := ""
	for _, l := range outs {
		for k, v := range l {
			if v == api.Yes {
				s += "ABC"[k : k+1]
			}
		}
		s += " "
	}
	return s
}

// mustTell: Run, and the net run by package tick, tell this.
func mustTell(t *testing.T, p []api.Node, l []int, want string) {
	t.Helper()
	outs, e := Run(p, l)
	if e != api.OK || told(outs) != want {
		t.Errorf("%v by %v: %v %d, not %q", p, l, outs, e, want)
	}
	n, e := Net(p)
	byNet, _, f := tick.Run(n, l)
	if e != api.OK || f != api.OK || told(byNet) != want {
		t.Errorf("the net of %v by %v: %v %d %d, not %q", p, l, byNet, e, f, want)
	}
}

// walked: what the program puts out, instant by instant, as package walk tells it.
func walked(p []api.Node, l []int) [][]int {
	r, _ := walk.Begin(p)
	outs := make([][]int, len(l))
	for i, ins := range l {
		r, _, _ = walk.Step(p, r, ins)
		outs[i] = values(r.Outs)
	}
	return outs
}

func values(truths []bool) []int {
	l := make([]int, len(truths))
	for k, is := range truths {
		if is {
			l[k] = api.Yes
		}
	}
	return l
}

// smallPrograms: all of one node, and of three.
func smallPrograms() [][]api.Node {
	var all [][]api.Node
	for _, a := range sample.Leaves() {
		all = append(all, []api.Node{a})
		for _, b := range sample.Leaves() {
			for _, fork := range sample.Forks() {
				all = append(all, []api.Node{fork, a, b})
			}
		}
	}
	return all
}

// longest: programs of as many nodes as there may be, of one fork and one leaf only, as deep to the left and to the right as may be.
func longest() [][]api.Node {
	var all [][]api.Node
	for _, fork := range sample.Forks() {
		for _, leaf := range sample.Leaves() {
			left, right := []api.Node{leaf}, []api.Node{leaf}
			for range mostForks {
				left = slices.Concat([]api.Node{fork}, left, []api.Node{leaf})
				right = slices.Concat([]api.Node{fork, leaf}, right)
			}
			all = append(all, left, right)
		}
	}
	return all
}

func drawnPrograms(d *sample.Draw, count int) [][]api.Node {
	var all [][]api.Node
	for i := range count {
		all = append(all, d.Program(i%(mostForks+1)))
	}
	return all
}

func TestK1ProgramsErrorsFirst(t *testing.T) {
	for _, c := range sample.NoPrograms() {
		if n, e := Net(c.Nodes); !reflect.DeepEqual(n, api.Net{}) || e != c.Err {
			t.Errorf("Net of %v: %v %d, not %d", c.Nodes, n, e, c.Err)
		}
		for _, l := range [][]int{nil, {0}, {-1}, make([]int, api.MaxTimes+1), {inputs}} {
			if outs, e := Run(c.Nodes, l); outs != nil || e != c.Err {
				t.Errorf("Run of %v by %v: %v %d, not %d", c.Nodes, l, outs, e, c.Err)
			}
		}
	}
}

// Too many instants are told ahead of numbers that are none; each number is asked, and all that there are may be.
func TestK1RunsErrors(t *testing.T) {
	odd := []int{-1, inputs, inputs + 1, 1 << 32, math.MinInt, math.MaxInt}
	for _, p := range [][]api.Node{sample.Play(), {nothing}, {halt}} {
		for _, bad := range append(odd, 0) {
			l := make([]int, api.MaxTimes+1)
			l[0], l[api.MaxTimes] = bad, bad
			if outs, e := Run(p, l); outs != nil || e != api.ErrMany {
				t.Errorf("%v by %v: %v %d", p, l, outs, e)
			}
		}
		for k := range api.MaxTimes {
			for _, bad := range odd {
				l := make([]int, api.MaxTimes)
				l[k] = bad
				if outs, e := Run(p, l); outs != nil || e != api.ErrRange {
					t.Errorf("%v by %v: %v %d", p, l, outs, e)
				}
			}
		}
		for ins := range inputs {
			if outs, e := Run(p, slices.Repeat([]int{ins}, api.MaxTimes)); len(outs) != api.MaxTimes || e != api.OK {
				t.Errorf("%v by %d only: %d instants %d", p, ins, len(outs), e)
			}
		}
		if outs, e := Run(p, nil); len(outs) != 0 || e != api.OK {
			t.Errorf("%v by nothing: %v %d", p, outs, e)
		}
	}
}

// A number for each output, Yes or No, even of a program that puts nothing out.
func TestK1RunsNumbers(t *testing.T) {
	d := sample.Draw(71)
	for _, p := range append(drawnPrograms(&d, 200), []api.Node{nothing}) {
		outs, e := Run(p, d.Values(d.Below(9), inputs))
		for _, l := range outs {
			if e != api.OK || len(l) != api.MaxOuts || slices.Max(l) > api.Yes || slices.Min(l) < api.No {
				t.Errorf("%v: %v %d", p, outs, e)
			}
		}
	}
}

// A and B, then C, and it is over; or B, A by a late x, and C.
func TestK1Example(t *testing.T) {
	mustTell(t, sample.Play(), []int{6, 7, 1, 7, 7}, " AB C   ")
	mustTell(t, sample.Play(), []int{1, 0, 6, 1, 0, 0}, " B  A C  ")
	mustTell(t, sample.Play(), nil, "")
}

// Two parts at once, one of which is over ahead of the other, or at once; it is over with the later one.
func TestK1OnePartIsOver(t *testing.T) {
	late := []api.Node{seq, pause, seq, pause, putB}
	for _, p := range [][]api.Node{
		slices.Concat([]api.Node{seq, par, putA}, late, []api.Node{putC}),
		slices.Concat([]api.Node{seq, par}, late, []api.Node{putA, putC}),
	} {
		mustTell(t, p, []int{0, 0, 0, 0}, "A  BC  ")
	}
	mustTell(t, []api.Node{seq, par, pause, halt, putC}, []int{0, 0, 7, 7}, "    ")
	mustTell(t, []api.Node{seq, par, halt, nothing, putC}, []int{7, 7, 7, 7}, "    ")
	mustTell(t, []api.Node{seq, par, putA, nothing, putC}, []int{0, 0}, "AC  ")
	mustTell(t, []api.Node{seq, par, pause, awaitX, putC}, []int{1, 0, 1, 1}, "  C  ")
	mustTell(t, []api.Node{seq, par, awaitX, pause, putC}, []int{1, 0, 1, 1}, "  C  ")
}

// Parts that wait in both go on apart, and are over at the same instant, or at two.
func TestK1PartsThatWaitInBoth(t *testing.T) {
	p := []api.Node{seq, par, seq, awaitX, putA, seq, awaitY, putB, putC}
	mustTell(t, p, []int{3, 3, 3}, " ABC  ")
	mustTell(t, p, []int{3, 1, 1, 2, 3}, " A  BC  ")
	mustTell(t, p, []int{0, 2, 2, 1, 3}, " B  AC  ")
	mustTell(t, p, []int{0, 0, 4, 0, 3}, "    ABC ")
}

// The choice is made at the instant at which a node is begun; what was put out counts for one instant, and not for that of its own.
func TestK1Choices(t *testing.T) {
	p := []api.Node{seq, ifX, seq, pause, putA, seq, pause, putB, putC}
	mustTell(t, p, []int{1, 0, 0}, " AC  ")
	mustTell(t, p, []int{6, 1, 0}, " BC  ")
	mustTell(t, []api.Node{wasA, putB, putC}, []int{7, 7}, "C  ")
	mustTell(t, []api.Node{seq, putA, wasA, putB, putC}, []int{0, 0}, "AC  ")
	mustTell(t, []api.Node{seq, putA, seq, pause, wasA, putB, putC}, []int{0, 0, 0}, "A B  ")
	mustTell(t, []api.Node{seq, putA, seq, pause, seq, pause, wasA, putB, putC}, []int{0, 0, 0, 0}, "A  C  ")
	mustTell(t, []api.Node{seq, putB, seq, pause, wasA, putB, putC}, []int{0, 0, 0}, "B C  ")
	mustTell(t, []api.Node{seq, putA, seq, pause, seq, wasA, pause, halt, putC}, []int{0, 0, 0, 0}, "A  C  ")
}

// Who waits for an input that is there at the first instant waits for the next one; a halt waits for ever.
func TestK1Waiting(t *testing.T) {
	mustTell(t, []api.Node{seq, awaitX, putA}, []int{7, 6, 6, 1, 1}, "   A  ")
	mustTell(t, []api.Node{seq, pause, putA}, []int{0, 0, 0}, " A  ")
	mustTell(t, []api.Node{seq, halt, putA}, []int{7, 7, 7}, "   ")
	mustTell(t, []api.Node{seq, nothing, putA}, []int{0, 0}, "A  ")
}

// A program that is over puts nothing out any more, for as long as may be.
func TestK1OverForGood(t *testing.T) {
	for _, p := range [][]api.Node{{putA}, {seq, putA, nothing}, {par, putA, putA}, {ifX, putA, putB}, {wasA, putB, putA}} {
		outs, e := Run(p, slices.Repeat([]int{7}, api.MaxTimes))
		if e != api.OK || !slices.Equal(outs[0], []int{1, 0, 0}) {
			t.Errorf("%v: %v %d", p, outs, e)
		}
		for _, l := range outs[1:] {
			if !slices.Equal(l, []int{0, 0, 0}) {
				t.Errorf("%v: %v", p, outs)
			}
		}
	}
}

// The net may be, has an order, and as many inputs and outs as it must.
func TestK1NetsShape(t *testing.T) {
	d := sample.Draw(73)
	for _, p := range slices.Concat(smallPrograms(), longest(), drawnPrograms(&d, 3000)) {
		n, e := Net(p)
		if e != api.OK || n.Ins != api.MaxIns || len(n.Outs) != api.MaxOuts {
			t.Fatalf("%v: %v %d", p, n, e)
		}
		if e := net.Check(n); e != api.OK {
			t.Fatalf("%v: %d gates, %d registers: %d", p, len(n.Gates), len(n.Regs), e)
		}
		if _, e := level.Order(n); e != api.OK {
			t.Fatalf("%v: no order: %d", p, e)
		}
	}
}

// In whatever state, whether a run leads there or not, all is settled.
func TestK1SettledInWhateverState(t *testing.T) {
	d := sample.Draw(79)
	for _, p := range slices.Concat([][]api.Node{sample.Play()}, smallPrograms(), longest(), drawnPrograms(&d, 300)) {
		n, _ := Net(p)
		for range 20 {
			regs, ins := d.Values(len(n.Regs), 2), d.Values(n.Ins, 2)
			if _, _, e := tick.Do(n, regs, ins); e != api.OK {
				t.Fatalf("%v, %v, %v: %d", p, regs, ins, e)
			}
		}
	}
	n, _ := Net(sample.Play())
	for _, regs := range sample.Rows(len(n.Regs), 2) {
		for ins := range inputs {
			if _, _, e := tick.Do(n, regs, row.Of(ins, n.Ins)); e != api.OK {
				t.Fatalf("%v, %d: %d", regs, ins, e)
			}
		}
	}
}

// pair is where the program rests, and what the registers of its net have.
type pair struct {
	rest api.Rest
	regs []int
}

func (a pair) is(b pair) bool {
	return a.rest.Fresh == b.rest.Fresh && slices.Equal(a.rest.Waits, b.rest.Waits) && slices.Equal(a.rest.Outs, b.rest.Outs) && slices.Equal(a.regs, b.regs)
}

// mustGoTogether follows the program and its net to wherever they come, by all inputs: so no run is left out.
func mustGoTogether(t *testing.T, p []api.Node) {
	t.Helper()
	n, _ := Net(p)
	r, _ := walk.Begin(p)
	regs, _ := net.Begin(n)
	seen := []pair{{r, regs}}
	for i := 0; i < len(seen); i++ {
		for ins := range inputs {
			rest, _, e := walk.Step(p, seen[i].rest, ins)
			outs, regs, f := tick.Do(n, seen[i].regs, row.Of(ins, n.Ins))
			if e != api.OK || f != api.OK || !slices.Equal(outs, values(rest.Outs)) {
				t.Fatalf("%v, %v by %d: %v %d, and the net %v %d", p, seen[i], ins, rest, e, outs, f)
			}
			if then := (pair{rest, regs}); !slices.ContainsFunc(seen, then.is) {
				seen = append(seen, then)
			}
		}
	}
}

func TestK1WhateverTheInputs(t *testing.T) {
	d := sample.Draw(83)
	mustGoTogether(t, sample.Play())
	for _, p := range slices.Concat(smallPrograms(), longest(), drawnPrograms(&d, 700)) {
		mustGoTogether(t, p)
	}
}

// What a part does behind which something is put out tells when it is over.
func TestK1WhateverTheInputsWithOneBehind(t *testing.T) {
	d := sample.Draw(89)
	for _, p := range slices.Concat(smallPrograms(), drawnPrograms(&d, 700)) {
		if len(p)+2 <= api.MaxNodes {
			mustGoTogether(t, slices.Concat([]api.Node{seq}, p, []api.Node{putA}))
		}
	}
}

// held: what the registers have where the program rests: is it Fresh, what was put out, and which of those that may wait.
func held(r api.Rest, may []bool) []int {
	truths := append([]bool{r.Fresh}, r.Outs...)
	for k, mayWait := range may {
		if mayWait {
			truths = append(truths, r.Waits[k])
		}
	}
	return values(truths)
}

// From wherever a program may rest, whether a run leads there or not, the net goes where the program goes.
func TestK1FromWhereverItMayRest(t *testing.T) {
	d := sample.Draw(97)
	for i := range 20000 {
		p := d.Program(i % (mostForks + 1))
		may := make([]bool, len(p))
		r := api.Rest{Fresh: i%5 == 0, Waits: make([]bool, len(p)), Outs: make([]bool, api.MaxOuts)}
		for k, node := range p {
			may[k] = slices.Contains([]int{api.Pause, api.Halt, api.Await}, node.Kind)
			r.Waits[k] = may[k] && !r.Fresh && d.Below(2) == 0
		}
		for k := range r.Outs {
			r.Outs[k] = d.Below(2) == 0
		}
		ins := d.Below(inputs)
		want, _, _ := walk.Step(p, r, ins)
		n, _ := Net(p)
		outs, regs, e := tick.Do(n, held(r, may), row.Of(ins, n.Ins))
		if e != api.OK || !slices.Equal(outs, values(want.Outs)) || !slices.Equal(regs, held(want, may)) {
			t.Fatalf("%v, %v by %d: %v %v %d, not %v", p, r, ins, outs, regs, e, want)
		}
	}
}

// Long runs, by Run.
func TestK1RunsOfDrawnPrograms(t *testing.T) {
	d := sample.Draw(101)
	for i, p := range drawnPrograms(&d, 1000) {
		l := d.Values(i%(api.MaxTimes+1), inputs)
		if i%2 == 0 {
			for k := range l {
				l[k] &= d.Below(inputs)
			}
		}
		outs, e := Run(p, l)
		if want := walked(p, l); e != api.OK || !slices.EqualFunc(outs, want, slices.Equal[[]int]) {
			t.Fatalf("%v by %v: %v %d, not %v", p, l, outs, e, want)
		}
	}
}

func TestK2Size(t *testing.T) {
	for _, c := range []struct {
		p     []api.Node
		waits int
	}{
		{sample.Play(), 4},
		{[]api.Node{nothing}, 0},
		{[]api.Node{putC}, 0},
		{[]api.Node{pause}, 1},
		{[]api.Node{halt}, 1},
		{[]api.Node{awaitY}, 1},
		{[]api.Node{par, ifX, pause, nothing, wasA, halt, putB}, 2},
	} {
		if waits, nodes, e := Size(c.p); waits != c.waits || nodes != len(c.p) || e != api.OK {
			t.Errorf("%v: %d %d %d, not %d", c.p, waits, nodes, e, c.waits)
		}
	}
	for _, c := range sample.NoPrograms() {
		if waits, nodes, e := Size(c.Nodes); waits != 0 || nodes != 0 || e != c.Err {
			t.Errorf("%v: %d %d %d, not %d", c.Nodes, waits, nodes, e, c.Err)
		}
	}
}

// As many as may wait each alone.
func TestK2SizeOfDrawnPrograms(t *testing.T) {
	d := sample.Draw(103)
	for _, p := range append(drawnPrograms(&d, 500), longest()...) {
		want := 0
		for _, node := range p {
			if node.Kind == api.Pause || node.Kind == api.Halt || node.Kind == api.Await {
				want++
			}
		}
		if waits, nodes, e := Size(p); waits != want || nodes != len(p) || e != api.OK {
			t.Errorf("%v: %d %d %d, not %d", p, waits, nodes, e, want)
		}
	}
}

// swept: the net folded, dropped, and both, in both orders.
func swept(n api.Net) []api.Net {
	folded, _ := sweep.Fold(n)
	dropped, _ := sweep.Drop(n)
	both, _ := sweep.Drop(folded)
	other, _ := sweep.Fold(dropped)
	return []api.Net{n, folded, dropped, both, other}
}

// Sixty-four runs at once, of the net as it is made and of the swept ones: each bit is what the program puts out by its inputs.
func TestWholeSweptAndSixtyFourAtOnce(t *testing.T) {
	d := sample.Draw(107)
	for i, p := range append(drawnPrograms(&d, 200), sample.Play()) {
		words := make([][]uint64, 1+i%12)
		for k := range words {
			words[k] = d.Words(api.MaxIns)
		}
		n, _ := Net(p)
		for j, m := range swept(n) {
			outs, e := pack.Run(m, words)
			if e != api.OK || len(outs) != len(words) {
				t.Fatalf("%v, net %d: %d", p, j, e)
			}
			for run := range 64 {
				want := walked(p, numbersOf(words, run))
				if got := bitsOf(outs, run); !slices.EqualFunc(got, want, slices.Equal[[]int]) {
					t.Fatalf("%v, net %d, run %d: %v, not %v", p, j, run, got, want)
				}
			}
		}
	}
}

// numbersOf: the inputs of one run, a number an instant.
func numbersOf(words [][]uint64, run int) []int {
	l := make([]int, len(words))
	for i, bits := range bitsOf(words, run) {
		l[i] = row.Number(bits)
	}
	return l
}

func bitsOf(words [][]uint64, run int) [][]int {
	all := make([][]int, len(words))
	for i, l := range words {
		for _, w := range l {
			all[i] = append(all[i], int(w>>run&1))
		}
	}
	return all
}

func TestWholeSweptRunsAlone(t *testing.T) {
	d := sample.Draw(109)
	for _, p := range append(drawnPrograms(&d, 200), longest()...) {
		l := d.Values(1+d.Below(12), inputs)
		n, _ := Net(p)
		want := walked(p, l)
		for j, m := range swept(n) {
			if outs, _, e := tick.Run(m, l); e != api.OK || !slices.EqualFunc(outs, want, slices.Equal[[]int]) {
				t.Fatalf("%v, net %d, by %v: %v %d, not %v", p, j, l, outs, e, want)
			}
		}
	}
}

func TestP2WhatIsHandedInIsOnlyRead(t *testing.T) {
	p := append(sample.Play(), api.Node{Kind: 77})
	l := []int{1, 2, 3, 77}
	Net(p[:13])
	Run(p[:13], l[:3])
	Size(p[:13])
	if !slices.Equal(p, append(sample.Play(), api.Node{Kind: 77})) || !slices.Equal(l, []int{1, 2, 3, 77}) {
		t.Errorf("changed: %v %v", p, l)
	}
}

// lists: all of a net that are of numbers.
func lists(n *api.Net) []*[]int {
	all := []*[]int{&n.Outs}
	for k := range n.Gates {
		all = append(all, &n.Gates[k].Args)
	}
	return all
}

// Each list of a net may be changed, and what lies behind it, and no other one changes, nor a later answer.
func TestP2P3NetsAreNew(t *testing.T) {
	p := []api.Node{par, ifX, putA, awaitX, seq, putA, wasA, halt, putA}
	want, _ := Net(p)
	n, _ := Net(p)
	for k, l := range lists(&n) {
		if !slices.Equal(*l, *lists(&want)[k]) {
			t.Errorf("list %d: %v, not %v", k, *l, *lists(&want)[k])
		}
		all := (*l)[:cap(*l)]
		for i := range all {
			all[i] = 99
		}
	}
	for k := range n.Regs {
		n.Regs[k].Next = 99
	}
	if again, e := Net(p); e != api.OK || !reflect.DeepEqual(again, want) {
		t.Errorf("%v %d, not %v", again, e, want)
	}
}

func TestP2P3RunsAreNew(t *testing.T) {
	for range 2 {
		outs, e := Run([]api.Node{putA}, []int{0, 0, 0})
		for k, l := range outs {
			if e != api.OK || told([][]int{l}) != []string{"A ", " ", " "}[k] {
				t.Errorf("instant %d: %v %d", k, l, e)
			}
			all := append(l, 9, 9, 9)
			all[0], l[0] = 9, 9
		}
	}
}
