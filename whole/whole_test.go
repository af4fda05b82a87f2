// Package whole: what the whole promises, a test for each sentence, by the calls of the layers alone.
package whole

import (
	"slices"
	"testing"

	"linchpin/api"
	"linchpin/desk"
	"linchpin/eval"
	"linchpin/forge"
	"linchpin/level"
	"linchpin/pack"
	"linchpin/reach"
	"linchpin/row"
	"linchpin/sample"
	"linchpin/sweep"
	"linchpin/tern"
	"linchpin/text"
	"linchpin/tick"
	"linchpin/walk"
)

// mostForks: the longest program has one leaf more than forks.
const mostForks = (api.MaxNodes - 1) / 2

// opened: the values, with some of them Open.
func opened(d *sample.Draw, l []int) []int {
	less := slices.Clone(l)
	for k := range less {
		if d.Below(3) == 0 {
			less[k] = api.Open
		}
	}
	return less
}

func mustBeLess(t *testing.T, what string, a, b []int) {
	t.Helper()
	if is, e := tern.Leq(a, b); !is || e != api.OK {
		t.Fatalf("%s: %v, and then %v", what, a, b)
	}
}

func sameOuts(a, b [][]int) bool { return slices.EqualFunc(a, b, slices.Equal[[]int]) }

func TestWhereLessIsSaidNoOtherThingIsTold(t *testing.T) {
	d := sample.Draw(201)
	told := func(l []int) []int {
		all, _ := tern.All(l)
		some, _ := tern.Any(l)
		other, _ := tern.Not(l[0])
		return []int{all, some, other}
	}
	for range 5000 {
		l := d.Values(1+d.Below(5), 3)
		mustBeLess(t, "less said", told(opened(&d, l)), told(l))
	}
}

func TestStepSolvesAndSaysNoMore(t *testing.T) {
	d := sample.Draw(203)
	for i := range 300 {
		n := d.Net(i%4, i%3, 1+d.Below(5))
		regs, ins := d.Values(len(n.Regs), 3), d.Values(n.Ins, 3)
		v, _ := eval.Step(n, regs, ins)
		if is, e := eval.Solves(n, regs, ins, v); !is || e != api.OK {
			t.Fatalf("%v: %v does not solve: %d", n, v, e)
		}
		for _, w := range sample.Rows(len(n.Gates), 3) {
			if is, _ := eval.Solves(n, regs, ins, w); is {
				mustBeLess(t, "whatever solves", v, w)
			}
		}
		less, e := eval.Step(n, opened(&d, regs), opened(&d, ins))
		if e != api.OK {
			t.Fatalf("%v: %d", n, e)
		}
		mustBeLess(t, "with less open handed in", less, v)
	}
}

func TestWhereverARunEndsIsReached(t *testing.T) {
	d := sample.Draw(207)
	found := map[bool]int{}
	for i := range 400 {
		n := d.Net(i%4, 1+i%5, 4+d.Below(12))
		way, bad, _ := reach.Bad(n)
		found[bad]++
		if _, _, e := tick.Run(n, way); bad && e != api.ErrOpen {
			t.Fatalf("%v by %v: %d", n, way, e)
		}
		states, e := reach.States(n)
		for range 10 {
			_, state, f := tick.Run(n, d.Values(d.Below(9), 1<<n.Ins))
			isState := func(s []int) bool { return slices.Equal(s, state) }
			if e == api.OK && (f != api.OK || !slices.ContainsFunc(states, isState)) {
				t.Fatalf("%v: %v %d, of %v", n, state, f, states)
			}
		}
	}
	if found[true] < 50 || found[false] < 50 {
		t.Errorf("too few of one kind: %v", found)
	}
}

func TestFoldedAndDroppedTheSameComes(t *testing.T) {
	d := sample.Draw(211)
	settled := 0
	for i := range 600 {
		n := d.Net(i%4, 1+i%4, 2+d.Below(15))
		l := d.Values(1+d.Below(8), 1<<n.Ins)
		outs, regs, e := tick.Run(n, l)
		if e != api.OK {
			continue
		}
		settled++
		folded, _ := sweep.Fold(n)
		dropped, _ := sweep.Drop(n)
		both, _ := sweep.Drop(folded)
		for _, m := range []api.Net{folded, dropped, both} {
			if outs2, regs2, f := tick.Run(m, l); f != api.OK || !sameOuts(outs, outs2) || !slices.Equal(regs, regs2) {
				t.Fatalf("%v by %v: %v %v, and swept %v %v %d", n, l, outs, regs, outs2, regs2, f)
			}
		}
	}
	if settled < 100 {
		t.Errorf("only %d are settled", settled)
	}
}

func TestInTheOrderEachGateStandsOnceBehindItsArgs(t *testing.T) {
	d := sample.Draw(213)
	for i := range 400 {
		n := d.Ordered(i%4, i%5, 1+d.Below(40))
		order, e := level.Order(n)
		if e != api.OK || len(order) != len(n.Gates) {
			t.Fatalf("%v: %v %d", n, order, e)
		}
		for k, g := range n.Gates {
			at := slices.Index(order, k)
			for _, arg := range g.Args {
				if ahead := slices.Index(order, arg); ahead < 0 || ahead >= at {
					t.Fatalf("%v: %v, gate %d, arg %d", n, order, k, arg)
				}
			}
			if at < 0 {
				t.Fatalf("%v: %v, gate %d", n, order, k)
			}
		}
		v, e := level.Step(n, d.Values(len(n.Regs), 2), d.Values(n.Ins, 2))
		if e != api.OK || slices.Contains(v, api.Open) {
			t.Fatalf("%v: %v %d", n, v, e)
		}
	}
}

// bits: of each instant the bit of one run of each word.
func bits(words [][]uint64, run int) [][]int {
	all := make([][]int, len(words))
	for i, l := range words {
		for _, w := range l {
			all[i] = append(all[i], int(w>>run&1))
		}
	}
	return all
}

func numbers(rows [][]int) []int {
	l := make([]int, len(rows))
	for i, values := range rows {
		l[i] = row.Number(values)
	}
	return l
}

func drawnWords(d *sample.Draw, times, count int) [][]uint64 {
	words := make([][]uint64, times)
	for i := range words {
		words[i] = d.Words(count)
	}
	return words
}

func TestBitKIsWhatRunKTellsAlone(t *testing.T) {
	d := sample.Draw(217)
	for i := range 60 {
		n := d.Ordered(i%4, 1+i%5, 3+d.Below(20))
		words := drawnWords(&d, 1+d.Below(6), n.Ins)
		outs, e := pack.Run(n, words)
		for run := range 64 {
			want, _, f := tick.Run(n, numbers(bits(words, run)))
			if got := bits(outs, run); e != api.OK || f != api.OK || !sameOuts(got, want) {
				t.Fatalf("%v, run %d: %v %d, not %v %d", n, run, got, e, want, f)
			}
		}
	}
}

func TestWhoIsOverWaitsNowhereAndDoesNothing(t *testing.T) {
	d := sample.Draw(219)
	ended := 0
	for i := range 3000 {
		p := d.Program(i % (mostForks + 1))
		r, _ := walk.Begin(p)
		over := false
		for range 8 {
			was := over
			again := false
			r, again, _ = walk.Step(p, r, d.Below(1<<api.MaxIns))
			over = over || again
			if over && slices.Contains(r.Waits, true) || was && (again || slices.Contains(r.Outs, true)) {
				t.Fatalf("%v is over, and then %v %t", p, r, again)
			}
		}
		if over {
			ended++
		}
	}
	if ended < 500 {
		t.Errorf("only %d are over", ended)
	}
}

// putOut: what the program puts out, instant by instant.
func putOut(p []api.Node, l []int) [][]int {
	r, _ := walk.Begin(p)
	outs := make([][]int, len(l))
	for i, ins := range l {
		r, _, _ = walk.Step(p, r, ins)
		for _, is := range r.Outs {
			value := api.No
			if is {
				value = api.Yes
			}
			outs[i] = append(outs[i], value)
		}
	}
	return outs
}

func TestTheNetOfAProgramPutsOutTheSame(t *testing.T) {
	d := sample.Draw(223)
	for i := range 100 {
		p := d.Program(i % (mostForks + 1))
		n, e := forge.Net(p)
		if e != api.OK {
			t.Fatalf("%v: %d", p, e)
		}
		folded, _ := sweep.Fold(n)
		swept, _ := sweep.Drop(folded)
		words := drawnWords(&d, 1+d.Below(9), api.MaxIns)
		atOnce, e := pack.Run(n, words)
		sweptAtOnce, f := pack.Run(swept, words)
		if e != api.OK || f != api.OK {
			t.Fatalf("%v: %d %d", p, e, f)
		}
		for run := range 64 {
			l := numbers(bits(words, run))
			want := putOut(p, l)
			alone, _, _ := tick.Run(n, l)
			sweptAlone, _, _ := tick.Run(swept, l)
			told, _ := forge.Run(p, l)
			for k, got := range [][][]int{alone, sweptAlone, told, bits(atOnce, run), bits(sweptAtOnce, run)} {
				if !sameOuts(got, want) {
					t.Fatalf("%v by %v, way %d: %v, not %v", p, l, k, got, want)
				}
			}
		}
	}
}

func TestWhatIsShownIsReadAsItWasAndNothingElseIs(t *testing.T) {
	d := sample.Draw(227)
	const letters = "()|; xyzABCaefhilmnoptuw"
	for i := range 3000 {
		p := d.Program(i % (mostForks + 1))
		s, e := text.Show(p)
		if q, f := text.Read(s); e != api.OK || f != api.OK || !slices.Equal(p, q) {
			t.Fatalf("%v: %q %d, read %v %d", p, s, e, q, f)
		}
		b := []byte(s)
		b[d.Below(len(b))] = letters[d.Below(len(letters))]
		q, e := text.Read(string(b))
		if again, _ := text.Show(q); e == api.OK && again != string(b) {
			t.Fatalf("%q: %v, shown %q", b, q, again)
		}
	}
}

// The document's examples 10 to 13: one program, as a walk, as a net, as text, and on the desk.
func TestThePlayOnAllLayers(t *testing.T) {
	p, l := sample.Play(), []int{0, 1, 0}
	want := [][]int{{0, 0, 0}, {1, 1, 0}, {0, 0, 1}}
	if got, e := forge.Run(p, l); !sameOuts(got, want) || !sameOuts(putOut(p, l), want) || e != api.OK {
		t.Errorf("%v %d, walked %v", got, e, putOut(p, l))
	}
	if waits, nodes, e := forge.Size(p); waits != 4 || nodes != 13 || e != api.OK {
		t.Errorf("%d %d %d", waits, nodes, e)
	}
	s, e := text.Show(p)
	if s != "(((await x; emit A) | (pause; emit B)); (pause; was A then emit C else halt end))" || e != api.OK {
		t.Errorf("%q %d", s, e)
	}
	given, e := desk.Play(s, "tick\nrest\ntick x\nrest\ntick\nrest\n")
	if given != "-\n3 6\nA B\n9\nC over\n-\n" || e != api.OK {
		t.Errorf("%q %d", given, e)
	}
}
