// Package tern: three values: see doc/01-tern.md.
package tern

import "linchpin/api"

// Check: ErrRange, unless each of l is No, Yes or Open.
func Check(l []int) api.Errno {
	for _, v := range l {
		if !isOneOf(v, api.No, api.Yes, api.Open) {
			return api.ErrRange
		}
	}
	return api.OK
}

// All: No, if one is No; Yes, if all are Yes; else Open.
func All(l []int) (int, api.Errno) {
	if e := Check(l); e != api.OK {
		return 0, e
	}
	return tell(api.No, api.Yes, l...), api.OK
}

// Any: Yes, if one is Yes; No, if all are No; else Open.
func Any(l []int) (int, api.Errno) {
	if e := Check(l); e != api.OK {
		return 0, e
	}
	return tell(api.Yes, api.No, l...), api.OK
}

// Not: the other one of No and Yes; of Open Open.
func Not(v int) (int, api.Errno) {
	if e := Check([]int{v}); e != api.OK {
		return 0, e
	}
	other := [3]int{api.No: api.Yes, api.Yes: api.No, api.Open: api.Open}
	return other[v], api.OK
}

// Leq: is each of a Open, or the same as in b?
func Leq(a, b []int) (bool, api.Errno) {
	if e := Check(a); e != api.OK {
		return false, e
	}
	if e := Check(b); e != api.OK {
		return false, e
	}
	if len(a) != len(b) {
		return false, api.ErrForm
	}
	for i, v := range a {
		if !isOneOf(v, api.Open, b[i]) {
			return false, api.OK
		}
	}
	return true, api.OK
}

func isOneOf(v int, values ...int) bool {
	for _, w := range values {
		if v == w {
			return true
		}
	}
	return false
}

// tell serves All and Any alike: one that is decisive decides alone, whatever
// is Open beside it; the rest must all be settled to tell the other value.
func tell(decisive, other int, values ...int) int {
	if isOneOf(decisive, values...) {
		return decisive
	}
	if isOneOf(api.Open, values...) {
		return api.Open
	}
	return other
}
