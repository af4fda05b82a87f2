// Package row: rows of values, as inputs and registers have them, the numbers that stand for them (bit k is 1, if value k is Yes), and what is picked of them.
package row

import "linchpin/api"

// Of: the row of so many values for which the number stands.
func Of(number, count int) []int {
	values := make([]int, count)
	for k := range values {
		values[k] = api.No
		if number>>k&1 == 1 {
			values[k] = api.Yes
		}
	}
	return values
}

// Number: the number that stands for a row in which nothing is Open.
func Number(values []int) int {
	number := 0
	for k, v := range values {
		if v == api.Yes {
			number |= 1 << k
		}
	}
	return number
}

// Pick: of each of those places what the list has there.
func Pick[T any](list []T, places []int) []T {
	picked := make([]T, len(places))
	for i, k := range places {
		picked[i] = list[k]
	}
	return picked
}

// Nexts: of each register the gate whose value it takes.
func Nexts(regs []api.Store) []int {
	gates := make([]int, len(regs))
	for i, r := range regs {
		gates[i] = r.Next
	}
	return gates
}
