package prog

import (
	"math"
	"slices"
	"testing"

	"linchpin/api"
	"linchpin/sample"
)

// mostForks: the longest program has one leaf more than forks.
const mostForks = (api.MaxNodes - 1) / 2

// shapes of all programs of so many forks: f is a fork, l a leaf.
func shapes(forks int) []string {
	if forks == 0 {
		return []string{"l"}
	}
	var all []string
	for left := range forks {
		for _, one := range shapes(left) {
			for _, other := range shapes(forks - 1 - left) {
				all = append(all, "f"+one+other)
			}
		}
	}
	return all
}

// ofShape: a list of nodes, each of any kind that the shape lets it be.
func ofShape(d *sample.Draw, shape string) []api.Node {
	var p []api.Node
	for _, c := range shape {
		from := sample.Leaves()
		if c == 'f' {
			from = sample.Forks()
		}
		p = append(p, from[d.Below(len(from))])
	}
	return p
}

func mustRefuse(t *testing.T, p []api.Node, want api.Errno) {
	t.Helper()
	if e := Check(p); e != want {
		t.Errorf("Check of %v: %d, not %d", p, e, want)
	}
	if l, e := Waits(p); len(l) != 0 || e != want {
		t.Errorf("Waits of %v: %v %d, not %d", p, l, e, want)
	}
	for _, k := range []int{0, 1, len(p) - 1, len(p), -1, math.MinInt, math.MaxInt} {
		if a, b, c, e := Parts(p, k); a != 0 || b != 0 || c != 0 || e != want {
			t.Errorf("Parts of %v, %d: %d %d %d %d, not %d", p, k, a, b, c, e, want)
		}
	}
}

func mustTake(t *testing.T, p []api.Node) {
	t.Helper()
	if e := Check(p); e != api.OK {
		t.Errorf("Check of %v: %d", p, e)
	}
	if l, e := Waits(p); len(l) != len(p) || e != api.OK {
		t.Errorf("Waits of %v: %v %d", p, l, e)
	}
	for k := range p {
		if _, _, _, e := Parts(p, k); e != api.OK {
			t.Errorf("Parts of %v, %d: %d", p, k, e)
		}
	}
}

func TestI1Programs(t *testing.T) {
	mustTake(t, sample.Play())
	for _, leaf := range sample.Leaves() {
		mustTake(t, []api.Node{leaf})
		for _, fork := range sample.Forks() {
			mustTake(t, []api.Node{fork, leaf, leaf})
			mustRefuse(t, []api.Node{fork}, api.ErrForm)
			mustRefuse(t, []api.Node{fork, leaf}, api.ErrForm)
			mustRefuse(t, []api.Node{leaf, fork}, api.ErrForm)
			mustRefuse(t, []api.Node{leaf, fork, leaf}, api.ErrForm)
			mustRefuse(t, []api.Node{fork, leaf, leaf, leaf}, api.ErrForm)
		}
		mustRefuse(t, []api.Node{leaf, leaf}, api.ErrForm)
	}
	mustRefuse(t, nil, api.ErrForm)
	mustRefuse(t, []api.Node{}, api.ErrForm)
}

// Of all lists of forks and leaves just those are programs that are made as the chapter says.
func TestI1ListsOfAllShapes(t *testing.T) {
	d := sample.Draw(51)
	for count := range api.MaxNodes + 2 {
		var programs []string
		if count%2 == 1 && count < api.MaxNodes {
			programs = shapes(count / 2)
		}
		found := 0
		for number := range 1 << count {
			shape := ""
			for k := range count {
				shape += "lf"[number>>k&1:][:1]
			}
			want := api.ErrForm
			switch {
			case count > api.MaxNodes:
				want = api.ErrMany
			case slices.Contains(programs, shape):
				want = api.OK
				found++
			}
			if e := Check(ofShape(&d, shape)); e != want {
				t.Fatalf("%q: %d, not %d", shape, e, want)
			}
		}
		if found != len(programs) {
			t.Fatalf("%d nodes: %d programs, not %d", count, found, len(programs))
		}
	}
}

func TestI1FirstErrorOfSeveral(t *testing.T) {
	for _, c := range sample.NoPrograms() {
		mustRefuse(t, c.Nodes, c.Err)
	}
	many := slices.Repeat([]api.Node{{Kind: api.Pause}}, 100000)
	for _, p := range [][]api.Node{many, make([]api.Node, api.MaxNodes+1), slices.Repeat([]api.Node{{Kind: 9, Sig: 9}}, api.MaxNodes+1)} {
		mustRefuse(t, p, api.ErrMany)
	}
	mustRefuse(t, make([]api.Node, api.MaxNodes), api.ErrForm)
	// Wherever the node stands that has the error told first, ahead of or behind the others.
	kind, sig, none := api.Node{Kind: 9}, api.Node{Kind: api.Pause, Sig: 1}, api.Node{}
	mustRefuse(t, []api.Node{sig, kind}, api.ErrKind)
	mustRefuse(t, []api.Node{kind, sig}, api.ErrKind)
	mustRefuse(t, []api.Node{none, sig}, api.ErrRange)
	mustRefuse(t, []api.Node{sig, none}, api.ErrRange)
	mustRefuse(t, []api.Node{{Kind: 9, Sig: 9}}, api.ErrKind)
}

// A node that is wrong is told wherever it stands.
func TestI1KindsAndSignalsOfEachNode(t *testing.T) {
	odd := []int{-1, math.MinInt, math.MaxInt, 1 << 32, 256, -256}
	for k, node := range sample.Play() {
		for _, bad := range append(odd, api.Was+1) {
			p := sample.Play()
			p[k].Kind = bad
			mustRefuse(t, p, api.ErrKind)
		}
		for _, bad := range append(odd, 3) {
			p := sample.Play()
			p[k].Sig = bad
			mustRefuse(t, p, api.ErrRange)
		}
		for sig := range 3 {
			p := sample.Play()
			p[k].Sig = sig
			if sig == 0 || slices.Contains([]int{api.Emit, api.Await, api.If, api.Was}, node.Kind) {
				mustTake(t, p)
			} else {
				mustRefuse(t, p, api.ErrRange)
			}
		}
	}
}

// The bounds of each kind: a Sig that says nothing is 0, one of an input or of an output below their number.
func TestI1Signals(t *testing.T) {
	below := []int{
		api.Nothing: 1, api.Pause: 1, api.Halt: 1, api.Emit: api.MaxOuts, api.Await: api.MaxIns,
		api.Seq: 1, api.Par: 1, api.If: api.MaxIns, api.Was: api.MaxOuts,
	}
	for kind, count := range below {
		for sig := -2; sig < 6; sig++ {
			p := []api.Node{{Kind: kind, Sig: sig}}
			if kind >= api.Seq {
				p = append(p, api.Node{}, api.Node{})
			}
			if sig >= 0 && sig < count {
				mustTake(t, p)
			} else {
				mustRefuse(t, p, api.ErrRange)
			}
		}
	}
}

func mustPart(t *testing.T, p []api.Node, k, first, second, next int) {
	t.Helper()
	if a, b, c, e := Parts(p, k); a != first || b != second || c != next || e != api.OK {
		t.Errorf("Parts of %v, %d: %d %d %d %d, not %d %d %d", p, k, a, b, c, e, first, second, next)
	}
}

func TestI2PartsOfKnown(t *testing.T) {
	for k, want := range [][3]int{
		{1, 8, 13}, {2, 5, 8}, {3, 4, 5}, {0, 0, 4}, {0, 0, 5}, {6, 7, 8}, {0, 0, 7},
		{0, 0, 8}, {9, 10, 13}, {0, 0, 10}, {11, 12, 13}, {0, 0, 12}, {0, 0, 13},
	} {
		mustPart(t, sample.Play(), k, want[0], want[1], want[2])
	}
	mustPart(t, []api.Node{{}}, 0, 0, 0, 1)
}

func TestI2NoSuchNode(t *testing.T) {
	for _, p := range [][]api.Node{sample.Play(), {{}}} {
		for _, k := range []int{-1, len(p), len(p) + 1, 1 << 32, math.MinInt, math.MaxInt} {
			if a, b, c, e := Parts(p, k); a != 0 || b != 0 || c != 0 || e != api.ErrRange {
				t.Errorf("Parts of %v, %d: %d %d %d %d", p, k, a, b, c, e)
			}
		}
	}
}

// Each part is a program by itself, and the second ends where the whole does.
func TestI2PartsOfAllShapes(t *testing.T) {
	d := sample.Draw(53)
	for forks := range mostForks + 1 {
		for _, shape := range shapes(forks) {
			p := ofShape(&d, shape)
			for k := range p {
				mustPartWell(t, p, k)
			}
		}
	}
}

func mustPartWell(t *testing.T, p []api.Node, k int) {
	t.Helper()
	first, second, next, e := Parts(p, k)
	if e != api.OK {
		t.Fatalf("%v, %d: %d", p, k, e)
	}
	if p[k].Kind < api.Seq {
		mustPart(t, p, k, 0, 0, k+1)
		return
	}
	if first != k+1 || Check(p[first:second]) != api.OK || Check(p[second:next]) != api.OK || Check(p[k:next]) != api.OK {
		t.Fatalf("%v, %d: %d %d %d", p, k, first, second, next)
	}
}

func TestI2Waits(t *testing.T) {
	d := sample.Draw(57)
	for i := range 700 {
		p := d.Program(i % (mostForks + 1))
		if i == 0 {
			p = sample.Play()
		}
		l, e := Waits(p)
		if e != api.OK || len(l) != len(p) {
			t.Fatalf("%v: %v %d", p, l, e)
		}
		for k, node := range p {
			if want := node.Kind == api.Pause || node.Kind == api.Halt || node.Kind == api.Await; l[k] != want {
				t.Fatalf("%v, %d: %t", p, k, l[k])
			}
		}
	}
}

func TestP2WhatIsHandedInIsOnlyRead(t *testing.T) {
	p := sample.Spare(sample.Play(), api.Node{Kind: 77, Sig: 78}, api.Node{Kind: 79})
	was := slices.Clone(p[:cap(p)])
	Check(p)
	Waits(p)
	for k := range p {
		Parts(p, k)
	}
	if !slices.Equal(p[:cap(p)], was) {
		t.Errorf("changed: %v", p[:cap(p)])
	}
	// What lies behind the list is no part of it.
	mustRefuse(t, sample.Spare(sample.Play()[:12], api.Node{}), api.ErrForm)
}

func TestP2P3AnswersAreNew(t *testing.T) {
	p := sample.Play()
	l, _ := Waits(p)
	was := slices.Clone(l)
	again, _ := Waits(p)
	clear(again)
	p[3].Kind = api.Emit
	third, _ := Waits(sample.Play())
	if !slices.Equal(l, was) || !slices.Equal(third, was) {
		t.Errorf("%v %v, and it was %v", l, third, was)
	}
}
