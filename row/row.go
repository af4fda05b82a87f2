// Package row: rows of values, as inputs and registers have them, and the numbers that stand for them: bit k is 1, if value k is Yes.
package row

import "linchpin/api"

// Of: the row of so many values for which the number stands.
func Of(number, count int) []int {
	values := make([]int, count)
	for k := range values {
		values[k] = api.No
		if number>>k&1 == 1 {
			values[k] = api.Yes
		}
	}
	return values
}

// Number: the number that stands for a row in which nothing is Open.
func Number(values []int) int {
	number := 0
	for k, v := range values {
		if v == api.Yes {
			number |= 1 << k
		}
	}
	return number
}

// Pick: of each of those places the value.
func Pick(values, places []int) []int {
	picked := make([]int, len(places))
	for i, k := range places {
		picked[i] = values[k]
	}
	return picked
}
