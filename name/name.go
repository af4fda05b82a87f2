// Package name: the names of inputs and outputs, as texts have them.
package name

import "linchpin/api"

// In: the name of input k, from 0 to api.MaxIns - 1.
func In(k int) string { return [api.MaxIns]string{"x", "y", "z"}[k] }

// Out: the name of output k, from 0 to api.MaxOuts - 1.
func Out(k int) string { return [api.MaxOuts]string{"A", "B", "C"}[k] }
