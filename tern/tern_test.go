package tern

import (
	"math"
	"slices"
	"testing"

	"linchpin/api"
)

// lists of the given values, of none to most of them: all there are.
func lists(most int, values ...int) [][]int {
	all := [][]int{nil}
	for last := all; most > 0; most-- {
		var longer [][]int
		for _, l := range last {
			for _, v := range values {
				longer = append(longer, append(slices.Clone(l), v))
			}
		}
		all = append(all, longer...)
		last = longer
	}
	return all
}

func count(l []int, v int) int {
	n := 0
	for _, w := range l {
		if w == v {
			n++
		}
	}
	return n
}

var notValues = []int{-1, 3, 4, 255, 256, 258, math.MinInt, math.MaxInt, math.MaxUint32 + 1, -math.MaxUint32}

// wrong lists: each has one that is no value, ahead of, between or behind others.
func wrong() [][]int {
	var all [][]int
	for _, bad := range notValues {
		all = append(all, []int{bad}, []int{bad, api.No}, []int{api.Yes, bad}, []int{api.No, bad, api.Yes}, []int{api.Open, api.Open, bad})
	}
	return all
}

func TestA1CheckTellsValues(t *testing.T) {
	for _, l := range append(lists(5, api.No, api.Yes, api.Open), []int{}, make([]int, 100000)) {
		if e := Check(l); e != api.OK {
			t.Errorf("Check(%v): %d", l, e)
		}
	}
	for _, l := range wrong() {
		if e := Check(l); e != api.ErrRange {
			t.Errorf("Check(%v): %d", l, e)
		}
	}
}

func TestA1OthersTellItFirst(t *testing.T) {
	for _, l := range wrong() {
		if v, e := All(l); v != 0 || e != api.ErrRange {
			t.Errorf("All(%v): %d %d", l, v, e)
		}
		if v, e := Any(l); v != 0 || e != api.ErrRange {
			t.Errorf("Any(%v): %d %d", l, v, e)
		}
		for _, other := range append(lists(3, api.No, api.Yes, api.Open), l) {
			if is, e := Leq(l, other); is || e != api.ErrRange {
				t.Errorf("Leq(%v, %v): %t %d", l, other, is, e)
			}
			if is, e := Leq(other, l); is || e != api.ErrRange {
				t.Errorf("Leq(%v, %v): %t %d", other, l, is, e)
			}
		}
	}
	for _, v := range notValues {
		if w, e := Not(v); w != 0 || e != api.ErrRange {
			t.Errorf("Not(%d): %d %d", v, w, e)
		}
	}
}

func TestA2AllAndAny(t *testing.T) {
	for _, l := range lists(5, api.No, api.Yes, api.Open) {
		all, any := api.Open, api.Open
		switch {
		case count(l, api.No) > 0:
			all = api.No
		case count(l, api.Yes) == len(l):
			all = api.Yes
		}
		switch {
		case count(l, api.Yes) > 0:
			any = api.Yes
		case count(l, api.No) == len(l):
			any = api.No
		}
		if v, e := All(l); v != all || e != api.OK {
			t.Errorf("All(%v): %d %d, not %d", l, v, e, all)
		}
		if v, e := Any(l); v != any || e != api.OK {
			t.Errorf("Any(%v): %d %d, not %d", l, v, e, any)
		}
	}
}

func TestA2OfNone(t *testing.T) {
	for _, l := range [][]int{nil, {}} {
		if v, e := All(l); v != api.Yes || e != api.OK {
			t.Errorf("All of none: %d %d", v, e)
		}
		if v, e := Any(l); v != api.No || e != api.OK {
			t.Errorf("Any of none: %d %d", v, e)
		}
		if is, e := Leq(l, nil); !is || e != api.OK {
			t.Errorf("Leq of none: %t %d", is, e)
		}
	}
}

func TestA2Example(t *testing.T) {
	if v, e := All([]int{api.Yes, api.Open, api.No}); v != api.No || e != api.OK {
		t.Errorf("All: %d %d", v, e)
	}
	if v, e := Any([]int{api.No, api.Open}); v != api.Open || e != api.OK {
		t.Errorf("Any: %d %d", v, e)
	}
}

func TestA2Not(t *testing.T) {
	for _, c := range [][2]int{{api.No, api.Yes}, {api.Yes, api.No}, {api.Open, api.Open}} {
		if v, e := Not(c[0]); v != c[1] || e != api.OK {
			t.Errorf("Not(%d): %d %d", c[0], v, e)
		}
	}
}

func TestA2Leq(t *testing.T) {
	few := lists(3, api.No, api.Yes, api.Open)
	for _, a := range few {
		for _, b := range few {
			want, fault := true, api.OK
			if len(a) != len(b) {
				want, fault = false, api.ErrForm
			}
			for i := 0; want && i < len(a); i++ {
				want = a[i] == api.Open || a[i] == b[i]
			}
			if is, e := Leq(a, b); is != want || e != fault {
				t.Errorf("Leq(%v, %v): %t %d", a, b, is, e)
			}
		}
	}
}

// Where less is said, no other thing is told.
func TestA2NoOtherThingIsTold(t *testing.T) {
	told := func(l []int) []int {
		all, _ := All(l)
		any, _ := Any(l)
		not, _ := Not(l[0])
		return []int{all, any, not}
	}
	few := lists(4, api.No, api.Yes, api.Open)
	for _, a := range few {
		for _, b := range few {
			if is, _ := Leq(a, b); !is || len(a) == 0 {
				continue
			}
			if is, e := Leq(told(a), told(b)); !is || e != api.OK {
				t.Errorf("of %v %v is told, of %v %v", a, told(a), b, told(b))
			}
		}
	}
}

func TestP2WhatIsHandedInIsOnlyRead(t *testing.T) {
	for _, spare := range []int{api.No, api.Yes, 7} {
		a, b := []int{2, 1, 0, spare, spare}, []int{1, 1, 0, spare, spare}
		wasA, wasB := slices.Clone(a), slices.Clone(b)
		Check(a[:3])
		All(a[:3])
		Any(a[:3])
		if is, e := Leq(a[:3], b[:3]); !is || e != api.OK {
			t.Errorf("Leq: %t %d", is, e)
		}
		if !slices.Equal(a, wasA) || !slices.Equal(b, wasB) {
			t.Errorf("changed: %v %v", a, b)
		}
	}
}
