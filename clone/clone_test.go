package clone

import (
	"reflect"
	"slices"
	"testing"

	"bailiwick/api"
	"bailiwick/forest"
	"bailiwick/handle"
	"bailiwick/mem"
	"bailiwick/model"
	"bailiwick/sample"
)

func open(t *testing.T, pages int) *mem.Mem {
	t.Helper()
	m, e := mem.Open(pages)
	if e != api.OK {
		t.Fatal(e)
	}
	do(t, m, model.Call{Do: model.Spawn, A: 1})
	return m
}

func do(t *testing.T, m *mem.Mem, c model.Call) handle.Handle {
	t.Helper()
	r := m.Call(c)
	if r.E != api.OK {
		t.Fatal(c, r)
	}
	return r.W
}

// made is a root of quota 9 with bytes, a child with bytes and cells of both and of a frozen tree elsewhere, and a grandchild.
func made(t *testing.T, m *mem.Mem) handle.Handle {
	t.Helper()
	r := do(t, m, model.Call{Do: model.New, A: 9})
	k := do(t, m, model.Call{Do: model.New, R: r, A: 5})
	do(t, m, model.Call{Do: model.New, R: k, A: 0})
	f := do(t, m, model.Call{Do: model.New, A: 0})
	do(t, m, model.Call{Do: model.Freeze, R: f})
	for _, size := range []int{30, 40, 3} {
		m.Alloc(k, size, 4)
	}
	m.Alloc(r, 7, 1)
	m.Put(k, 3, []byte("some bytes of it"))
	m.Put(r, 0, []byte("others"))
	for i, to := range []handle.Handle{r, k, 0, f} {
		do(t, m, model.Call{Do: model.Ref, R: k, S: to, A: uint32(i)})
	}
	return r
}

func alikes(t *testing.T, m *mem.Mem, a, b handle.Handle, want bool) {
	t.Helper()
	for range 2 {
		if is, e := Alike(m, a, b); is != want || e != api.OK {
			t.Error("alike", a, b, is, e)
		}
		a, b = b, a
	}
}

// P39.1, P39.2, P39.3, and the document's example.
func TestCopy(t *testing.T) {
	m := open(t, 64)
	r := made(t, m)
	c, e := Copy(m, r, 0)
	if e != api.OK {
		t.Fatal(e)
	}
	s := m.Core().S
	under, of := forest.Under(s.T, c), forest.Under(s.T, r)
	if len(under) != 3 || forest.Root(s.T, c) != c {
		t.Fatal(under)
	}
	x, _ := s.T.Get(under[1])
	y, _ := s.T.Get(of[1])
	if x.Cells != [8]handle.Handle{c, under[1], 0, y.Cells[3]} || x.Quota != 5 || x.E.Len != y.E.Len || len(x.E.Runs) != 2 || x.E.Runs[1].N != 2 {
		t.Error(x, y)
	}
	if b, _ := m.Bytes(under[1], 3, 16); string(b) != "some bytes of it" {
		t.Errorf("%q", b)
	}
	alikes(t, m, r, c, true)
	alikes(t, m, r, r, true)
	alikes(t, m, r, under[1], false)
	d, e := Copy(m, of[1], c)
	if e != api.OK || !forest.Outlives(m.Core().S.T, c, d) {
		t.Error(e)
	}
	if x, _ := m.Core().S.T.Get(d); x.Cells != [8]handle.Handle{0, d, 0, y.Cells[3]} {
		t.Error("a cell that may not be", x.Cells)
	}
	f, e := Copy(m, of[1], r)
	if x, _ := m.Core().S.T.Get(f); e != api.OK || x.Cells[0] != r || x.Cells[1] != f {
		t.Error("a cell of one above", x.Cells)
	}
	alikes(t, m, f, of[1], true)
	in, e := Copy(m, r, of[2])
	if e != api.OK || len(forest.Under(m.Core().S.T, in)) != 5 {
		t.Error("below itself", e)
	}
}

// P39.1: what is refused, in order; then all regions are as they were.
func TestWrong(t *testing.T) {
	m := open(t, 20)
	r := made(t, m)
	other, _ := m.As(1)
	mine := do(t, other, model.Call{Do: model.New, A: 1})
	dead, _ := m.As(3)
	kid := forest.Under(m.Core().S.T, r)[2]
	do(t, m, model.Call{Do: model.Lend, R: kid, A: 1})
	for _, x := range []struct {
		m     *mem.Mem
		r, up handle.Handle
		e     api.Errno
	}{
		{nil, 99, 99, api.ErrNil}, {dead, 99, 99, api.ErrState}, {m, 99, 99, api.ErrStale}, {m, 0, 99, api.ErrStale}, {m, mine, 99, api.ErrAccess}, {m, r, 99, api.ErrStale},
		{m, r, mine, api.ErrAccess}, {m, r, r, api.ErrAccess}, {other, r, mine, api.ErrAccess},
	} {
		before := m.Core().S
		c, e := Copy(x.m, x.r, x.up)
		if c != 0 || e != x.e || !reflect.DeepEqual(before, m.Core().S) {
			t.Error(x, c, e)
		}
		is, e := Alike(x.m, x.r, x.r)
		if e == api.OK && x.r != r || e != api.OK && (is || e != x.e) {
			t.Error("alike", x, is, e)
		}
	}
	if _, e := Copy(other, kid, mine); e != api.OK {
		t.Error("what is lent is copied", e)
	}
	if _, e := Alike(m, r, 99); e != api.ErrStale {
		t.Error(e)
	}
	// A hand whose call fails on the way: no memory, too deep, no slot.
	for _, x := range []struct {
		fill func()
		up   handle.Handle
		e    api.Errno
	}{
		{func() {
			for range 5 {
				h := do(t, m, model.Call{Do: model.New, A: 3})
				m.Alloc(h, 65, 1)
			}
		}, 0, api.ErrMem},
		{func() {
			for range 40 {
				m.Call(model.Call{Do: model.New})
			}
			h := m.Core().S.T.All()
			do(t, m, model.Call{Do: model.Delete, R: h[len(h)-1]})
		}, 0, api.ErrFull},
	} {
		x.fill()
		before := m.Core()
		pages := before.P.Free().Count() + len(before.Queue)
		c, e := Copy(m, r, x.up)
		after := m.Core()
		if c != 0 || e != x.e || !slices.Equal(before.S.T.All(), after.S.T.All()) || pages != after.P.Free().Count()+len(after.Queue) {
			t.Error(x.e, c, e)
		}
	}
}

// P39.1: too deep.
func TestDeep(t *testing.T) {
	m := open(t, 20)
	r := made(t, m)
	up := handle.Handle(0)
	for range 4 {
		up = do(t, m, model.Call{Do: model.New, R: up, A: 1})
	}
	before := m.Core().S.T.All()
	if c, e := Copy(m, r, up); c != 0 || e != api.ErrLimit || !slices.Equal(before, m.Core().S.T.All()) {
		t.Error(c, e)
	}
}

// P39.3, P39.4
func TestAlike(t *testing.T) {
	for i, change := range []func(m *mem.Mem, l []handle.Handle) model.Result{
		func(m *mem.Mem, l []handle.Handle) model.Result {
			return m.Call(model.Call{Do: model.Store, R: l[1], A: 66, B: 1, V: 1})
		},
		func(m *mem.Mem, l []handle.Handle) model.Result {
			return m.Call(model.Call{Do: model.Ref, R: l[1], A: 0})
		},
		func(m *mem.Mem, l []handle.Handle) model.Result {
			return m.Call(model.Call{Do: model.Ref, R: l[1], A: 0, S: l[1]})
		},
		func(m *mem.Mem, l []handle.Handle) model.Result {
			return m.Call(model.Call{Do: model.Ref, R: l[2], A: 7, S: l[0]})
		},
		func(m *mem.Mem, l []handle.Handle) model.Result {
			return m.Call(model.Call{Do: model.New, R: l[0]})
		},
		func(m *mem.Mem, l []handle.Handle) model.Result {
			return m.Call(model.Call{Do: model.Delete, R: l[2]})
		},
		func(m *mem.Mem, l []handle.Handle) model.Result {
			m.Call(model.Call{Do: model.Cut, R: l[2]})
			return m.Call(model.Call{Do: model.Graft, R: l[2], S: l[0]})
		},
		func(m *mem.Mem, l []handle.Handle) model.Result {
			return m.Call(model.Call{Do: model.Alloc, R: l[0], A: 1, B: 1})
		},
		func(m *mem.Mem, l []handle.Handle) model.Result {
			return m.Call(model.Call{Do: model.Reset, R: l[0]})
		},
	} {
		m := open(t, 64)
		r := made(t, m)
		c, _ := Copy(m, r, 0)
		d, _ := Copy(m, c, 0)
		alikes(t, m, r, d, true)
		before, _ := Alike(m, c, d)
		x := change(m, forest.Under(m.Core().S.T, r))
		is, _ := Alike(m, c, d)
		if x.E != api.OK || !before || !is {
			t.Error(i, x, "a copy stays as it is")
		}
		alikes(t, m, r, c, false)
	}
	m := open(t, 9)
	a := do(t, m, model.Call{Do: model.New, A: 3})
	b := do(t, m, model.Call{Do: model.New, A: 4})
	alikes(t, m, a, b, false)
}

// P39.3, whatever regions are there.
func TestWhatever(t *testing.T) {
	copies := 0
	for seed := range 30 {
		g := sample.New(seed)
		m := open(t, 64)
		for range 80 {
			c := g.Call(m.Core().S, 0)
			if c.Do != model.Exit && c.Do != model.Kill {
				m.Call(c)
			}
		}
		for _, h := range m.Core().S.T.All() {
			outer := false
			l := forest.Under(m.Core().S.T, h)
			for _, x := range l {
				r, _ := m.Core().S.T.Get(x)
				for _, to := range r.Cells {
					outer = outer || to != 0 && !slices.Contains(l, to)
				}
			}
			c, e := Copy(m, h, 0)
			if e != api.OK {
				continue
			}
			copies++
			if is, f := Alike(m, h, c); f != api.OK || !is && !outer {
				t.Fatal("alike", seed, h, is, f)
			}
			do(t, m, model.Call{Do: model.Delete, R: c})
		}
	}
	if copies < 50 {
		t.Error("too few", copies)
	}
}
