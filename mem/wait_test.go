package mem

import (
	"testing"

	"bailiwick/api"
	"bailiwick/model"
)

// P35.1: a call that waits for a mark is cut off, and waits for it no more.
func TestMarkWaits(t *testing.T) {
	m, _ := Open(4)
	m.Call(model.Call{Do: model.New, A: 4})
	if _, e := m.Alloc(1, 8, 8); e != api.OK {
		t.Fatal(e)
	}
	m.core.M, _ = m.core.M.Try(0, 5)
	before := m.core.M
	for _, c := range []model.Call{{Do: model.Load, R: 1, B: 8}, {Do: model.Delete, R: 1}} {
		if r := m.Call(c); r != (model.Result{E: api.ErrState}) || m.core.M != before {
			t.Error(c, r, m.core.M.Waiting(0))
		}
	}
	if r := m.Call(model.Call{Do: model.Recv}); r != (model.Result{E: api.ErrEmpty}) || m.core.M != before {
		t.Error(r)
	}
	m.core.M = m.core.M.Free(0, 5)
	if v, e := m.Word(1, 0); v != 0 || e != api.OK {
		t.Error(v, e)
	}
}
