package text

import (
	"strings"

	"linchpin/api"
)

func read(s string) (p []api.Node, e api.Errno) {
	defer func() {
		if left := recover(); left != nil {
			e = left.(api.Errno)
		}
	}()
	r := reader{left: s, phrases: phrases()}
	r.node()
	require(r.left == "")
	return r.nodes, api.OK
}

// require leaves read from however deep the text is not as it must be.
func require(holds bool) {
	if !holds {
		panic(api.ErrForm)
	}
}

// reader has what is left of a text, and the nodes that were read so far.
type reader struct {
	left    string
	nodes   []api.Node
	phrases map[api.Node]phrase
}

// node asks for room first, so that nothing goes deeper than a program may.
func (r *reader) node() {
	k := len(r.nodes)
	require(k < api.MaxNodes)
	r.nodes = append(r.nodes, r.find(func(f phrase) bool { return strings.HasPrefix(r.left, f.head) }))
	begun := r.phrases[r.nodes[k]]
	r.skip(begun.head)
	if begun.hasParts() {
		r.partsOf(k, begun.head)
	}
}

// partsOf asks once more which node it is: of those that begin alike only what
// stands between their parts tells.
func (r *reader) partsOf(k int, head string) {
	r.node()
	r.nodes[k] = r.find(func(f phrase) bool { return f.head == head && strings.HasPrefix(r.left, f.between) })
	f := r.phrases[r.nodes[k]]
	r.skip(f.between)
	r.node()
	r.skip(f.end)
}

// find goes by the nodes' numbers, since a map has no order of its own.
func (r *reader) find(fits func(f phrase) bool) api.Node {
	for kind := range api.Was + 1 {
		for sig := range max(api.MaxIns, api.MaxOuts) {
			node := api.Node{Kind: kind, Sig: sig}
			if f, isNode := r.phrases[node]; isNode && fits(f) {
				return node
			}
		}
	}
	panic(api.ErrForm)
}

func (r *reader) skip(words string) {
	left, is := strings.CutPrefix(r.left, words)
	require(is)
	r.left = left
}
