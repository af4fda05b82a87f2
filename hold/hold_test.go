package hold

import (
	"testing"

	"linchpin/api"
	"linchpin/sample"
)

// The net's errors, then how many there are, then what they are; with an error nothing is held.
func TestOfTellsTheFirstError(t *testing.T) {
	no, bad := []int{api.No}, []int{3}
	for _, f := range sample.Faults() {
		mustRefuse(t, f.Net, bad, nil, f.Err)
		mustRefuse(t, f.Net, no, no, f.Err)
	}
	mustRefuse(t, sample.Knot(), nil, bad, api.ErrForm)
	mustRefuse(t, sample.Knot(), bad, nil, api.ErrForm)
	mustRefuse(t, sample.Knot(), bad, no, api.ErrRange)
	mustRefuse(t, sample.Knot(), no, bad, api.ErrRange)
	if _, e := Of(sample.Knot(), no, []int{api.Open}); e != api.OK {
		t.Errorf("as it must be: %d", e)
	}
}

func mustRefuse(t *testing.T, n api.Net, regs, ins []int, want api.Errno) {
	t.Helper()
	if h, e := Of(n, regs, ins); h.regs != nil || h.ins != nil || e != want {
		t.Errorf("%v %v: %v %d, not %d", regs, ins, h, e, want)
	}
}

func TestValue(t *testing.T) {
	h := Holder{regs: []int{api.Open, api.Yes}, ins: []int{api.Yes, api.No}}
	v := []int{api.No, api.Yes, api.Open}
	for _, c := range []struct {
		g    api.Gate
		want int
	}{
		{api.Gate{Kind: api.Never}, api.No},
		{api.Gate{Kind: api.Always}, api.Yes},
		{api.Gate{Kind: api.In, N: 1}, api.No},
		{api.Gate{Kind: api.Reg}, api.Open},
		{api.Gate{Kind: api.Reg, N: 1}, api.Yes},
		{api.Gate{Kind: api.All}, api.Yes},
		{api.Gate{Kind: api.All, Args: []int{1, 2}}, api.Open},
		{api.Gate{Kind: api.All, Args: []int{2, 0}}, api.No},
		{api.Gate{Kind: api.Any}, api.No},
		{api.Gate{Kind: api.Any, Args: []int{0, 2}}, api.Open},
		{api.Gate{Kind: api.Any, Args: []int{2, 1}}, api.Yes},
		{api.Gate{Kind: api.Not, Args: []int{0}}, api.Yes},
		{api.Gate{Kind: api.Not, Args: []int{1}}, api.No},
		{api.Gate{Kind: api.Not, Args: []int{2}}, api.Open},
	} {
		if got := h.Value(c.g, v); got != c.want {
			t.Errorf("%v: %d, not %d", c.g, got, c.want)
		}
	}
}
