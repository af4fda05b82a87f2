package walk

import (
	"math"
	"reflect"
	"slices"
	"testing"

	"linchpin/api"
	"linchpin/prog"
	"linchpin/sample"
)

// mostForks: the longest program has one leaf more than forks.
const mostForks = (api.MaxNodes - 1) / 2

// inputs: how many numbers of inputs there are.
const inputs = 1 << api.MaxIns

// resting: not Fresh, those nodes of so many wait, those of the outs A, B and C were put out.
func resting(count int, outs string, waits ...int) api.Rest {
	r := api.Rest{Waits: make([]bool, count), Outs: make([]bool, api.MaxOuts)}
	for _, c := range outs {
		r.Outs[c-'A'] = true
	}
	for _, k := range waits {
		r.Waits[k] = true
	}
	return r
}

func fresh(count int, outs string) api.Rest {
	r := resting(count, outs)
	r.Fresh = true
	return r
}

// Leaves of tests, by short names.
var (
	nothing, pause, halt = api.Node{Kind: api.Nothing}, api.Node{Kind: api.Pause}, api.Node{Kind: api.Halt}
	putA, putB, putC     = api.Node{Kind: api.Emit, Sig: 0}, api.Node{Kind: api.Emit, Sig: 1}, api.Node{Kind: api.Emit, Sig: 2}
	awaitX, awaitY       = api.Node{Kind: api.Await, Sig: 0}, api.Node{Kind: api.Await, Sig: 1}
	seq, par             = api.Node{Kind: api.Seq}, api.Node{Kind: api.Par}
	ifX, wasA            = api.Node{Kind: api.If, Sig: 0}, api.Node{Kind: api.Was, Sig: 0}
)

func mustStep(t *testing.T, p []api.Node, r api.Rest, ins int, want api.Rest, wantOver bool) {
	t.Helper()
	got, over, e := Step(p, r, ins)
	if e != api.OK || over != wantOver || !reflect.DeepEqual(got, want) {
		t.Errorf("%v, %v, %d: %v %t %d, not %v %t", p, r, ins, got, over, e, want, wantOver)
	}
}

func mustRefuse(t *testing.T, p []api.Node, r api.Rest, ins int, check, step api.Errno) {
	t.Helper()
	if e := Check(p, r); e != check {
		t.Errorf("Check of %v, %v: %d, not %d", p, r, e, check)
	}
	if got, over, e := Step(p, r, ins); !reflect.DeepEqual(got, api.Rest{}) || over || e != step {
		t.Errorf("Step of %v, %v, %d: %v %t %d, not %d", p, r, ins, got, over, e, step)
	}
}

func TestJ1Begin(t *testing.T) {
	d := sample.Draw(61)
	for i := range 100 {
		p := d.Program(i % (mostForks + 1))
		if i == 0 {
			p = sample.Play()
		}
		r, e := Begin(p)
		if e != api.OK || !reflect.DeepEqual(r, fresh(len(p), "")) || Check(p, r) != api.OK {
			t.Errorf("%v: %v %d", p, r, e)
		}
	}
}

// The program's errors are told ahead of those of where it rests, and of the inputs.
func TestJ1ProgramsErrorsFirst(t *testing.T) {
	for _, c := range sample.NoPrograms() {
		if r, e := Begin(c.Nodes); !reflect.DeepEqual(r, api.Rest{}) || e != c.Err {
			t.Errorf("Begin of %v: %v %d, not %d", c.Nodes, r, e, c.Err)
		}
		for _, r := range []api.Rest{{}, fresh(len(c.Nodes), ""), fresh(13, "A"), {Fresh: true, Waits: []bool{true}}} {
			for _, ins := range []int{0, -1, inputs} {
				mustRefuse(t, c.Nodes, r, ins, c.Err, c.Err)
			}
		}
	}
}

// One truth more, or less, of nodes or outs, whatever the truths are, Fresh or not; ahead of the inputs' error.
func TestJ1TruthForEach(t *testing.T) {
	for _, p := range [][]api.Node{sample.Play(), {pause}, {seq, nothing, nothing}} {
		for _, isFresh := range []bool{false, true} {
			for _, ins := range []int{0, inputs - 1, -1, inputs} {
				for _, count := range []int{0, len(p) - 1, len(p) + 1, api.MaxNodes + 1, 1000} {
					r := api.Rest{Fresh: isFresh, Waits: make([]bool, count), Outs: make([]bool, api.MaxOuts)}
					mustRefuse(t, p, r, ins, api.ErrForm, api.ErrForm)
				}
				for _, count := range []int{0, api.MaxOuts - 1, api.MaxOuts + 1, 1000} {
					r := api.Rest{Fresh: isFresh, Waits: make([]bool, len(p)), Outs: make([]bool, count)}
					mustRefuse(t, p, r, ins, api.ErrForm, api.ErrForm)
				}
				mustRefuse(t, p, api.Rest{Fresh: isFresh}, ins, api.ErrForm, api.ErrForm)
			}
		}
	}
}

// None waits but those that may, alone or beside others; and none at all, if it is Fresh.
func TestJ1WhoMayWait(t *testing.T) {
	d := sample.Draw(63)
	for i := range 200 {
		p := d.Program(i % (mostForks + 1))
		may, _ := prog.Waits(p)
		for k := range p {
			r := someRest(&d, p)
			r.Waits[k] = true
			if may[k] {
				if e := Check(p, r); e != api.OK {
					t.Errorf("%v, %v: %d", p, r, e)
				}
			} else {
				mustRefuse(t, p, r, 0, api.ErrForm, api.ErrForm)
			}
			r.Fresh = true
			mustRefuse(t, p, r, 0, api.ErrForm, api.ErrForm)
			mustRefuse(t, p, r, inputs, api.ErrForm, api.ErrForm)
		}
	}
}

// Whatever was put out, Fresh or not, nobody waiting or all who may: each is a place to rest at.
func TestJ1WhereItMayRest(t *testing.T) {
	all := resting(13, "ABC", 3, 6, 9, 12)
	for _, r := range []api.Rest{fresh(13, ""), fresh(13, "ABC"), fresh(13, "B"), resting(13, ""), resting(13, "AC"), all} {
		if e := Check(sample.Play(), r); e != api.OK {
			t.Errorf("%v: %d", r, e)
		}
	}
}

func TestJ2Inputs(t *testing.T) {
	for _, p := range [][]api.Node{sample.Play(), {nothing}} {
		for _, r := range []api.Rest{fresh(len(p), ""), resting(len(p), "A")} {
			for _, ins := range []int{-1, inputs, inputs + 1, 1 << 32, math.MinInt, math.MaxInt} {
				mustRefuse(t, p, r, ins, api.OK, api.ErrRange)
			}
			for ins := range inputs {
				if _, _, e := Step(p, r, ins); e != api.OK {
					t.Errorf("%v, %d: %d", r, ins, e)
				}
			}
		}
	}
}

// A and B, then C, and it is over; or B, A by a late x, and C; and if A came too early, the halt.
func TestJ2Example(t *testing.T) {
	type instant struct {
		ins  int
		want api.Rest
		over bool
	}
	for _, run := range [][]instant{
		{{6, resting(13, "", 3, 6), false}, {7, resting(13, "AB", 9), false}, {1, resting(13, "C"), true}, {7, resting(13, ""), false}},
		{{1, resting(13, "", 3, 6), false}, {0, resting(13, "B", 3), false}, {6, resting(13, "", 3), false}, {1, resting(13, "A", 9), false}, {0, resting(13, "C"), true}, {0, resting(13, ""), false}},
	} {
		r, _ := Begin(sample.Play())
		for _, i := range run {
			mustStep(t, sample.Play(), r, i.ins, i.want, i.over)
			r = i.want
		}
	}
	mustStep(t, sample.Play(), resting(13, "B", 9), 7, resting(13, "", 12), false)
}

// Each leaf alone, begun and going on, by all inputs.
func TestJ2Leaves(t *testing.T) {
	idle, waits := resting(1, ""), resting(1, "", 0)
	for ins := range inputs {
		for _, outs := range []string{"", "B", "ABC"} {
			mustStep(t, []api.Node{nothing}, fresh(1, outs), ins, idle, true)
			mustStep(t, []api.Node{pause}, fresh(1, outs), ins, waits, false)
			mustStep(t, []api.Node{pause}, resting(1, outs, 0), ins, idle, true)
			mustStep(t, []api.Node{halt}, fresh(1, outs), ins, waits, false)
			mustStep(t, []api.Node{halt}, resting(1, outs, 0), ins, waits, false)
			for sig := range api.MaxOuts {
				mustStep(t, []api.Node{{Kind: api.Emit, Sig: sig}}, fresh(1, outs), ins, resting(1, "ABC"[sig:sig+1]), true)
			}
			for sig := range api.MaxIns {
				p := []api.Node{{Kind: api.Await, Sig: sig}}
				mustStep(t, p, fresh(1, outs), ins, waits, false)
				if ins>>sig&1 == 1 {
					mustStep(t, p, resting(1, outs, 0), ins, idle, true)
				} else {
					mustStep(t, p, resting(1, outs, 0), ins, waits, false)
				}
			}
			for _, leaf := range sample.Leaves() {
				mustStep(t, []api.Node{leaf}, resting(1, outs), ins, idle, false)
			}
		}
	}
}

func TestJ2BeginForks(t *testing.T) {
	for _, c := range []struct {
		p    []api.Node
		outs string
		ins  int
		want api.Rest
		over bool
	}{
		{[]api.Node{seq, putA, putB}, "", 0, resting(3, "AB"), true},
		{[]api.Node{seq, putA, pause}, "", 0, resting(3, "A", 2), false},
		{[]api.Node{seq, pause, putA}, "", 0, resting(3, "", 1), false},
		{[]api.Node{par, pause, putA}, "", 0, resting(3, "A", 1), false},
		{[]api.Node{par, putA, pause}, "", 0, resting(3, "A", 2), false},
		{[]api.Node{par, halt, awaitX}, "", 1, resting(3, "", 1, 2), false},
		{[]api.Node{par, putA, putA}, "", 0, resting(3, "A"), true},
		{[]api.Node{ifX, putA, halt}, "", 1, resting(3, "A"), true},
		{[]api.Node{ifX, putA, halt}, "A", 6, resting(3, "", 2), false},
		{[]api.Node{wasA, putB, pause}, "A", 0, resting(3, "B"), true},
		{[]api.Node{wasA, putB, pause}, "BC", 7, resting(3, "", 2), false},
		// Was asks of the instant ahead: what is put out just now does not count.
		{[]api.Node{seq, putA, wasA, putB, putC}, "", 1, resting(5, "AC"), true},
		{[]api.Node{par, putA, wasA, putB, putC}, "A", 1, resting(5, "AB"), true},
	} {
		mustStep(t, c.p, fresh(len(c.p), c.outs), c.ins, c.want, c.over)
	}
}

// Parts that wait in both: where no run leads to, but what is said holds there too.
func TestJ2PartsThatWaitInBoth(t *testing.T) {
	both := func(outs string) api.Rest { return resting(3, outs, 1, 2) }
	for _, c := range []struct {
		p    []api.Node
		ins  int
		want api.Rest
		over bool
	}{
		// The second of Seq is neither begun nor goes on, while the first is not over: it waits no longer.
		{[]api.Node{seq, halt, pause}, 0, resting(3, "", 1), false},
		{[]api.Node{seq, awaitX, halt}, 6, resting(3, "", 1), false},
		// It is begun, not gone on with, once the first is over.
		{[]api.Node{seq, pause, pause}, 0, resting(3, "", 2), false},
		{[]api.Node{seq, awaitX, awaitY}, 3, resting(3, "", 2), false},
		{[]api.Node{par, pause, halt}, 0, resting(3, "", 2), false},
		{[]api.Node{par, halt, pause}, 0, resting(3, "", 1), false},
		{[]api.Node{par, pause, pause}, 0, resting(3, ""), true},
		{[]api.Node{ifX, pause, halt}, 1, resting(3, "", 2), false},
		{[]api.Node{ifX, halt, pause}, 0, resting(3, "", 1), false},
		{[]api.Node{ifX, awaitX, awaitY}, 2, resting(3, "", 1), false},
		{[]api.Node{ifX, pause, pause}, 0, resting(3, ""), true},
		{[]api.Node{wasA, pause, halt}, 0, resting(3, "", 2), false},
		{[]api.Node{wasA, halt, pause}, 0, resting(3, "", 1), false},
		{[]api.Node{wasA, awaitX, awaitY}, 3, resting(3, ""), true},
	} {
		mustStep(t, c.p, both(""), c.ins, c.want, c.over)
		mustStep(t, c.p, both("ABC"), c.ins, c.want, c.over)
	}
	// A second part of Seq that waits in several places begins anew.
	p := []api.Node{seq, pause, par, seq, pause, putA, seq, halt, putB}
	mustStep(t, p, resting(9, "", 1, 4), 0, resting(9, "", 4, 7), false)
	mustStep(t, p, resting(9, "", 4, 7), 0, resting(9, "A", 7), false)
	// Both parts of If go on, and both put out what is behind their pause.
	p = []api.Node{ifX, seq, pause, putA, seq, pause, putB}
	mustStep(t, p, resting(7, "C", 2, 5), 0, resting(7, "AB"), true)
}

// The choice is made when the node is begun, and never again.
func TestJ2GoOnWhereItWas(t *testing.T) {
	for ins := range inputs {
		mustStep(t, []api.Node{ifX, pause, halt}, resting(3, "", 1), ins, resting(3, ""), true)
		mustStep(t, []api.Node{ifX, halt, pause}, resting(3, "A", 2), ins, resting(3, ""), true)
		mustStep(t, []api.Node{wasA, pause, halt}, resting(3, "", 1), ins, resting(3, ""), true)
		mustStep(t, []api.Node{wasA, halt, pause}, resting(3, "A", 2), ins, resting(3, ""), true)
		mustStep(t, []api.Node{par, pause, putA}, resting(3, "", 1), ins, resting(3, ""), true)
		mustStep(t, []api.Node{seq, putA, pause}, resting(3, "", 2), ins, resting(3, ""), true)
	}
}

// someRest: a place to rest at, any of them, not Fresh.
func someRest(d *sample.Draw, p []api.Node) api.Rest {
	may, _ := prog.Waits(p)
	r := resting(len(p), "")
	for k := range p {
		r.Waits[k] = may[k] && d.Below(2) == 0
	}
	for k := range r.Outs {
		r.Outs[k] = d.Below(2) == 0
	}
	return r
}

// allRests: all places to rest at, the Fresh ones too.
func allRests(p []api.Node) []api.Rest {
	var all []api.Rest
	for _, l := range sample.Rows(1+len(p)+api.MaxOuts, 2) {
		truths := make([]bool, len(l))
		for i, v := range l {
			truths[i] = v == api.Yes
		}
		r := api.Rest{Fresh: truths[0], Waits: truths[1 : 1+len(p)], Outs: truths[1+len(p):]}
		if Check(p, r) == api.OK {
			all = append(all, r)
		}
	}
	return all
}

// law tells what a node with parts does by what Step tells of each part alone.
type law struct {
	r   api.Rest
	ins int
}

func (l law) begun(part []api.Node) (api.Rest, bool) {
	r, over, _ := Step(part, api.Rest{Fresh: true, Waits: make([]bool, len(part)), Outs: l.r.Outs}, l.ins)
	return r, over
}

func (l law) goneOn(part []api.Node, waits []bool) (api.Rest, bool) {
	r, over, _ := Step(part, api.Rest{Waits: waits, Outs: l.r.Outs}, l.ins)
	return r, over
}

// joined: a node ahead of its parts, of which this was told.
func joined(one, other api.Rest) api.Rest {
	r := api.Rest{Waits: slices.Concat([]bool{false}, one.Waits, other.Waits), Outs: slices.Clone(one.Outs)}
	for k, is := range other.Outs {
		r.Outs[k] = r.Outs[k] || is
	}
	return r
}

func (l law) ofBegun(node api.Node, a, b []api.Node) (api.Rest, bool) {
	one, other := resting(len(a), ""), resting(len(b), "")
	isOver, isOtherOver := true, true
	first := node.Kind == api.If && l.ins>>node.Sig&1 == 1 || node.Kind == api.Was && l.r.Outs[node.Sig]
	if first || node.Kind == api.Seq || node.Kind == api.Par {
		one, isOver = l.begun(a)
	}
	if !first && (isOver || node.Kind != api.Seq) {
		other, isOtherOver = l.begun(b)
	}
	return joined(one, other), isOver && isOtherOver
}

func (l law) ofGoneOn(node api.Node, a, b []api.Node) (api.Rest, bool) {
	waitsA, waitsB := l.r.Waits[1:1+len(a)], l.r.Waits[1+len(a):]
	someA, someB := slices.Contains(waitsA, true), slices.Contains(waitsB, true)
	one, other := resting(len(a), ""), resting(len(b), "")
	isOver, isOtherOver := true, true
	if someA {
		one, isOver = l.goneOn(a, waitsA)
	}
	switch {
	case someA && node.Kind == api.Seq && isOver:
		other, isOtherOver = l.begun(b)
	case someA && node.Kind == api.Seq:
	case someB:
		other, isOtherOver = l.goneOn(b, waitsB)
	}
	return joined(one, other), (someA || someB) && isOver && isOtherOver
}

func mustKeepLaw(t *testing.T, p []api.Node, r api.Rest, ins int) {
	t.Helper()
	first, second, _, _ := prog.Parts(p, 0)
	told := law{r, ins}.ofGoneOn
	if r.Fresh {
		told = law{r, ins}.ofBegun
	}
	want, over := told(p[0], p[first:second], p[second:])
	mustStep(t, p, r, ins, want, over)
}

// All programs of three nodes, from all places, by all inputs.
func TestJ2ForksOfTwoLeaves(t *testing.T) {
	for _, fork := range sample.Forks() {
		for _, a := range sample.Leaves() {
			for _, b := range sample.Leaves() {
				p := []api.Node{fork, a, b}
				for _, r := range allRests(p) {
					for ins := range inputs {
						mustKeepLaw(t, p, r, ins)
					}
				}
			}
		}
	}
}

// Greater ones, drawn, from places where no run leads to, too.
func TestJ2ForksOfForks(t *testing.T) {
	d := sample.Draw(67)
	for i := range 20000 {
		p := d.Program(1 + i%mostForks)
		r := someRest(&d, p)
		if i%5 == 0 {
			r.Fresh = true
			clear(r.Waits)
		}
		mustKeepLaw(t, p, r, d.Below(inputs))
	}
}

// left is what is left of a program to be done: a leaf that waits, or what is
// left of a first part with a second behind it, or of two at once.
type left struct {
	leaf   int
	ahead  *left
	behind int
	one    *left
	other  *left
}

// rewriter does a program by what is left of it, not by which nodes wait.
type rewriter struct {
	p         []api.Node
	ins       int
	was, puts []bool
}

func (w *rewriter) begin(k int) *left {
	a, b, _, _ := prog.Parts(w.p, k)
	switch node := w.p[k]; node.Kind {
	case api.Nothing:
		return nil
	case api.Emit:
		w.puts[node.Sig] = true
		return nil
	case api.Seq:
		return w.inRow(w.begin(a), b)
	case api.Par:
		return beside(w.begin(a), w.begin(b))
	case api.If:
		if w.ins>>node.Sig&1 == 1 {
			return w.begin(a)
		}
		return w.begin(b)
	case api.Was:
		if w.was[node.Sig] {
			return w.begin(a)
		}
		return w.begin(b)
	}
	return &left{leaf: k}
}

func (w *rewriter) inRow(ahead *left, behind int) *left {
	if ahead == nil {
		return w.begin(behind)
	}
	return &left{ahead: ahead, behind: behind}
}

func beside(one, other *left) *left {
	if one == nil && other == nil {
		return nil
	}
	return &left{one: one, other: other}
}

func (w *rewriter) goOn(l *left) *left {
	switch {
	case l == nil:
		return nil
	case l.ahead != nil:
		return w.inRow(w.goOn(l.ahead), l.behind)
	case l.one != nil || l.other != nil:
		return beside(w.goOn(l.one), w.goOn(l.other))
	}
	node := w.p[l.leaf]
	if node.Kind == api.Pause || node.Kind == api.Await && w.ins>>node.Sig&1 == 1 {
		return nil
	}
	return l
}

func (l *left) mark(waits []bool) {
	switch {
	case l == nil:
	case l.ahead != nil:
		l.ahead.mark(waits)
	case l.one != nil || l.other != nil:
		l.one.mark(waits)
		l.other.mark(waits)
	default:
		waits[l.leaf] = true
	}
}

// Runs from Begin on are those of one who rewrites what is left.
func TestJ2Runs(t *testing.T) {
	d := sample.Draw(71)
	ended := 0
	for i := range 4000 {
		p := d.Program(i % (mostForks + 1))
		r, _ := Begin(p)
		w := rewriter{p: p, was: make([]bool, api.MaxOuts)}
		var now *left
		for instant := range 12 {
			isLeft := instant == 0 || now != nil
			w.ins, w.puts = d.Below(inputs), make([]bool, api.MaxOuts)
			if instant == 0 {
				now = w.begin(0)
			} else {
				now = w.goOn(now)
			}
			want := api.Rest{Waits: make([]bool, len(p)), Outs: w.puts}
			now.mark(want.Waits)
			mustStep(t, p, r, w.ins, want, isLeft && now == nil)
			if isLeft && now == nil {
				ended++
			}
			r, w.was = want, w.puts
		}
	}
	if ended < 1000 || ended > 3500 {
		t.Errorf("%d of 4000 are over", ended)
	}
}

// Who is over waits nowhere, and does nothing ever after; from places where no run leads to, too.
func TestJ2OverForGood(t *testing.T) {
	d := sample.Draw(73)
	ended := 0
	for i := range 10000 {
		p := d.Program(i % (mostForks + 1))
		r := someRest(&d, p)
		if i%2 == 0 {
			r, _ = Begin(p)
		}
		over := false
		for range 8 {
			r, over, _ = Step(p, r, d.Below(inputs))
			if over {
				break
			}
		}
		if !over {
			continue
		}
		ended++
		if r.Fresh || slices.Contains(r.Waits, true) {
			t.Fatalf("%v is over, and rests at %v", p, r)
		}
		for ins := range inputs {
			mustStep(t, p, r, ins, resting(len(p), ""), false)
		}
	}
	if ended < 2000 {
		t.Errorf("only %d are over", ended)
	}
}

// What a Step answers may be handed to the next one.
func TestJ2AnswersMayBeHandedIn(t *testing.T) {
	d := sample.Draw(79)
	for i := range 3000 {
		p := d.Program(i % (mostForks + 1))
		r, _, e := Step(p, someRest(&d, p), d.Below(inputs))
		if e != api.OK || r.Fresh || Check(p, r) != api.OK {
			t.Fatalf("%v: %v %d", p, r, e)
		}
	}
}

func TestP2WhatIsHandedInIsOnlyRead(t *testing.T) {
	p := sample.Spare(sample.Play(), api.Node{Kind: 77, Sig: 78})
	r := api.Rest{
		Waits: sample.Spare(resting(13, "", 3, 6, 9, 12).Waits, true, false, true),
		Outs:  sample.Spare([]bool{true, false, true}, true, false),
	}
	wasP, wasWaits, wasOuts := slices.Clone(p[:cap(p)]), slices.Clone(r.Waits[:cap(r.Waits)]), slices.Clone(r.Outs[:cap(r.Outs)])
	Begin(p)
	Check(p, r)
	for ins := range inputs {
		Step(p, r, ins)
	}
	if !slices.Equal(p[:cap(p)], wasP) || !slices.Equal(r.Waits[:cap(r.Waits)], wasWaits) || !slices.Equal(r.Outs[:cap(r.Outs)], wasOuts) {
		t.Errorf("changed: %v %v %v", p[:cap(p)], r.Waits[:cap(r.Waits)], r.Outs[:cap(r.Outs)])
	}
}

// What was answered does not change with what was handed in, nor with another answer; no two lists of it share memory.
func TestP2P3AnswersAreNew(t *testing.T) {
	p, r := sample.Play(), fresh(13, "")
	begun, _ := Begin(p)
	again, _ := Begin(p)
	fill(again)
	stepped, _, _ := Step(p, r, 7)
	other, _, _ := Step(p, r, 7)
	fill(other)
	p[3], p[6] = nothing, nothing
	fill(r)
	if !reflect.DeepEqual(begun, fresh(13, "")) || !reflect.DeepEqual(stepped, resting(13, "", 3, 6)) {
		t.Errorf("changed: %v %v", begun, stepped)
	}
	for _, l := range []api.Rest{begun, stepped} {
		_ = append(l.Waits, true, true, true, true)
		if slices.Contains(l.Outs, true) {
			t.Errorf("the lists share memory: %v", l)
		}
	}
	mustStep(t, sample.Play(), fresh(13, ""), 7, resting(13, "", 3, 6), false)
}

func fill(r api.Rest) {
	for _, l := range [][]bool{r.Waits, r.Outs} {
		for k := range l {
			l[k] = true
		}
	}
}
