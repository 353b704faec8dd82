package disasm

import (
	"strings"
	"testing"

	"orrery/api"
)

// F20.3: MaxText bytes, and one more. No segments have so great a source, so the bound is asked by itself.
func TestBounded(t *testing.T) {
	most := strings.Repeat("x", api.MaxText)
	if got, e := bounded(most); got != most || e != api.OK {
		t.Errorf("%d bytes, %v", len(got), e)
	}
	if got, e := bounded(most + "x"); got != "" || e != api.ErrBig {
		t.Errorf("%d bytes, %v, not ErrBig", len(got), e)
	}
}
