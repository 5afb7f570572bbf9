package whole

import (
	"slices"
	"testing"

	"bailiwick/api"
	"bailiwick/code"
	"bailiwick/machine"
	"bailiwick/mem"
	"bailiwick/model"
	"bailiwick/parts"
	"bailiwick/script"
)

func three(t *testing.T, pages int) [3]*mem.Mem {
	t.Helper()
	var l [3]*mem.Mem
	l[0], _ = mem.Open(pages)
	for k := 1; k < 3; k++ {
		must(t, l[0], model.Call{Do: model.Spawn, A: uint32(k)})
		l[k], _ = l[0].As(k)
	}
	return l
}

func refused(t *testing.T, m *mem.Mem, c model.Call, e api.Errno) {
	t.Helper()
	if r := m.Call(c); r != (model.Result{E: e}) {
		t.Error(c, r, "wanted", e)
	}
}

// The examples 1 to 5, and 7: by hand.
func TestByHand(t *testing.T) {
	load := model.Call{Do: model.Load, R: 1, B: 1}
	store := model.Call{Do: model.Store, R: 1, B: 1}
	made := func() [3]*mem.Mem {
		l := three(t, 8)
		must(t, l[0], model.Call{Do: model.New, A: 2})
		l[0].Alloc(1, 30, 1)
		return l
	}
	// 1
	l := made()
	if at, e := l[0].Alloc(1, 8, 1); at != 32 || e != api.OK {
		t.Error(at, e)
	}
	refused(t, l[0], model.Call{Do: model.Alloc, R: 1, A: 30, B: 1}, api.ErrMem)
	// 2
	must(t, l[0], model.Call{Do: model.Send, R: 1, A: 1})
	refused(t, l[0], load, api.ErrAccess)
	refused(t, l[1], load, api.ErrAccess)
	must(t, l[1], model.Call{Do: model.Recv})
	must(t, l[1], load)
	// 3
	must(t, l[1], model.Call{Do: model.Send, R: 1, A: 2})
	must(t, l[0], model.Call{Do: model.Kill, A: 2})
	must(t, l[1], store)
	// 4
	l = made()
	must(t, l[0], model.Call{Do: model.Lend, R: 1, A: 1, B: 1})
	refused(t, l[0], load, api.ErrAccess)
	must(t, l[1], store)
	must(t, l[1], model.Call{Do: model.Lend, R: 1, S: 1, A: 2, B: 1})
	refused(t, l[1], load, api.ErrAccess)
	must(t, l[1], model.Call{Do: model.Return, S: 1})
	refused(t, l[2], load, api.ErrAccess)
	refused(t, l[2], model.Call{Do: model.Return, S: 2}, api.ErrStale)
	must(t, l[0], store)
	// 5
	must(t, l[0], model.Call{Do: model.Freeze, R: 1})
	must(t, l[0], model.Call{Do: model.Share, R: 1, A: 1})
	for _, m := range l[:2] {
		must(t, m, load)
		refused(t, m, store, api.ErrAccess)
	}
	must(t, l[0], model.Call{Do: model.Drop, R: 1})
	must(t, l[1], load)
	must(t, l[1], model.Call{Do: model.Drop, R: 1})
	refused(t, l[1], load, api.ErrStale)
	// 7
	if r := must(t, l[0], model.Call{Do: model.New, A: 1}); r.W != 257 {
		t.Error(r)
	}
	refused(t, l[0], load, api.ErrStale)
}

// The examples 6 and 8 to 10: as picked.
func TestPicked(t *testing.T) {
	// 6, and 10
	s := programs(t, 4, []code.Instr{set(6, 64), do(model.New, 3, 0, 0, 0), set(1, 1), do(model.Alloc, 3, 1, 0, 1)})
	m, _ := machine.New(s)
	for range 8 {
		m.Pick(0)
	}
	if c, ok := m.Under(0); !ok || c.Cleared != 1 || c.Run.N != 2 {
		t.Error(c)
	}
	m.Pick(script.Slay)
	if x := m.Core(); !slices.Equal(x.Queue, []int{0, 1}) || x.S.T.All() != nil {
		t.Error(x.Queue)
	}
	m.Pick(script.Reap)
	m.Pick(script.Reap)
	if !parts.Whole(m) || !parts.Quiet(m) {
		t.Error("one run")
	}
	// 8
	s = programs(t, 4,
		[]code.Instr{set(6, 1), do(model.Spawn, 3, 0, 0, 0), do(model.New, 3, 0, 0, 0), set(1, 1), do(model.Alloc, 3, 1, 0, 1), do(model.Lend, 3, 1, 0, 0), set(6, 0), do(model.Load, 3, 1, 0, 1)},
		[]code.Instr{set(1, 1), do(model.Load, 3, 1, 0, 1)})
	m, _ = machine.New(s)
	for range 1 + 2 + 2 + 1 + 5 + 3 + 1 {
		m.Pick(0)
	}
	for _, b := range []uint8{0, 0, 1, 1, 1} {
		m.Pick(b)
	}
	if h, ok := m.Core().M.Holder(0); h != 0 || !ok || !slices.Equal(m.Core().M.Waiting(0), []int{1}) {
		t.Error("the one that came first", h, ok)
	}
	m.Pick(0)
	m.Pick(1)
	if h, ok := m.Core().M.Holder(0); h != 1 || !ok {
		t.Error("the other one is next", h, ok)
	}
	// 9
	s = programs(t, 4, []code.Instr{set(6, 1), do(model.Spawn, 3, 0, 0, 0), do(model.Recv, 3, 0, 0, 0)}, []code.Instr{do(model.Recv, 3, 0, 0, 0)})
	m, _ = machine.New(s)
	for _, b := range []uint8{0, 0, 0, 0, 1} {
		m.Pick(b)
	}
	if !slices.Equal(m.Waits(), []int{0, 1}) {
		t.Error(m.Waits())
	}
}
