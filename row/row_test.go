package row

import (
	"slices"
	"testing"

	"linchpin/api"
)

func TestBitKIsValueK(t *testing.T) {
	for _, c := range []struct {
		number int
		values []int
	}{
		{0, nil},
		{0, []int{api.No, api.No, api.No}},
		{1, []int{api.Yes, api.No, api.No}},
		{6, []int{api.No, api.Yes, api.Yes}},
		{1 << 19, append(make([]int, 19), api.Yes)},
	} {
		if l := Of(c.number, len(c.values)); !slices.Equal(l, c.values) {
			t.Errorf("Of(%d, %d): %v", c.number, len(c.values), l)
		}
		if number := Number(c.values); number != c.number {
			t.Errorf("Number(%v): %d", c.values, number)
		}
	}
}

func TestPick(t *testing.T) {
	values := []int{api.Open, api.No, api.Yes}
	for _, c := range []struct{ places, want []int }{
		{nil, nil},
		{[]int{2, 0, 2, 1}, []int{api.Yes, api.Open, api.Yes, api.No}},
	} {
		l := Pick(values, c.places)
		if !slices.Equal(l, c.want) {
			t.Errorf("%v: %v", c.places, l)
		}
	}
}

func TestPickOfWords(t *testing.T) {
	words := []uint64{1 << 63, 5}
	if l := Pick(words, []int{1, 0, 1}); !slices.Equal(l, []uint64{5, 1 << 63, 5}) {
		t.Errorf("%v", l)
	}
}

func TestNexts(t *testing.T) {
	if l := Nexts(nil); len(l) != 0 {
		t.Errorf("of none: %v", l)
	}
	if l := Nexts([]api.Store{{Next: 3}, {Begin: true, Next: 0}, {Next: 3}}); !slices.Equal(l, []int{3, 0, 3}) {
		t.Errorf("%v", l)
	}
}
