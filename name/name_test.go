package name

import (
	"testing"

	"linchpin/api"
)

func TestNames(t *testing.T) {
	ins, outs := "", ""
	for k := range api.MaxIns {
		ins += In(k)
	}
	for k := range api.MaxOuts {
		outs += Out(k)
	}
	if ins != "xyz" || outs != "ABC" {
		t.Errorf("%s %s", ins, outs)
	}
}
