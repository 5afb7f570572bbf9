package mem_test

import (
	"bytes"
	"math"
	"reflect"
	"testing"

	"bailiwick/api"
	"bailiwick/call"
	. "bailiwick/mem"
	"bailiwick/model"
	"bailiwick/runs"
	"bailiwick/sample"
)

func open(t *testing.T, pages int) *Mem {
	t.Helper()
	m, e := Open(pages)
	if e != api.OK {
		t.Fatal(e)
	}
	return m
}

func root(t *testing.T, m *Mem, quota uint32) {
	t.Helper()
	if r := m.Call(model.Call{Do: model.New, A: quota}); r.E != api.OK {
		t.Fatal(r)
	}
}

// P35.1, P35.2, and the document's example.
func TestExample(t *testing.T) {
	m := open(t, 2)
	if r := m.Call(model.Call{Do: model.New, A: 2}); r != (model.Result{W: 1}) || m.Task() != 0 {
		t.Error(r)
	}
	if at, e := m.Alloc(1, 8, 8); at != 0 || e != api.OK {
		t.Error(at, e)
	}
	if e := m.Set(1, 0, 5); e != api.OK {
		t.Error(e)
	}
	if v, e := m.Word(1, 0); v != 5 || e != api.OK {
		t.Error(v, e)
	}
	m.Call(model.Call{Do: model.Spawn, A: 3})
	k, e := m.As(3)
	if e != api.OK || k.Task() != 3 {
		t.Error(e)
	}
	k.Call(model.Call{Do: model.New, A: 1})
	if len(m.Core().S.T.All()) != 2 {
		t.Error("the same core")
	}
	x := m.Core()
	x.S = model.State{}
	x.Queue = append(x.Queue, 1)
	if len(m.Core().S.T.All()) != 2 || len(m.Core().Queue) != 0 {
		t.Error("as it is")
	}
}

// P35.1: what waits is cut off, and the queue is given back, if there is no memory.
func TestCall(t *testing.T) {
	m := open(t, 2)
	if r := m.Call(model.Call{Do: model.Recv}); r != (model.Result{E: api.ErrEmpty}) {
		t.Error(r)
	}
	dead, _ := m.As(5)
	if r := dead.Call(model.Call{Do: model.Recv}); r != (model.Result{E: api.ErrState}) {
		t.Error(r)
	}
	root(t, m, 9)
	for i := range 4 {
		if at, e := m.Alloc(1, 40, 1); at != 0 || e != api.OK {
			t.Error(i, at, e)
		}
		if _, e := m.Alloc(1, 40, 1); e != api.ErrMem {
			t.Error(i, e)
		}
		m.Call(model.Call{Do: model.Reset, R: 1})
		if len(m.Core().Queue) != 2 {
			t.Error(m.Core().Queue)
		}
	}
	root(t, m, 1)
	if _, e := m.Alloc(2, 40, 1); e != api.ErrMem || len(m.Core().Queue) != 0 {
		t.Error("a quota, and all of the queue is given back", e)
	}
}

// P35.2, P35.3: wrong numbers, and nil.
func TestWrong(t *testing.T) {
	for _, p := range []int{0, -1, 65} {
		if m, e := Open(p); m != nil || e != api.ErrArg {
			t.Error(e)
		}
	}
	m := open(t, 4)
	root(t, m, 4)
	m.Alloc(1, 16, 8)
	for _, k := range []int{-1, 8, math.MaxInt} {
		if x, e := m.As(k); x != nil || e != api.ErrArg {
			t.Error(e)
		}
	}
	for _, n := range []int{-1, math.MinInt, math.MaxUint32 + 1, math.MaxInt} {
		_, e1 := m.Alloc(9, n, 1)
		_, e2 := m.Alloc(9, 1, n)
		_, e3 := m.Word(9, n)
		_, e4 := m.Bytes(9, n, 1)
		if e1 != api.ErrArg || e2 != api.ErrArg || e3 != api.ErrArg || e4 != api.ErrArg || m.Set(9, n, 0) != api.ErrArg || m.Put(9, n, []byte{1}) != api.ErrArg {
			t.Error(n, e1, e2, e3, e4)
		}
		if b, e := m.Bytes(9, n, 0); b != nil || e != api.OK || m.Put(9, n, nil) != api.OK {
			t.Error("of none nothing is asked", e)
		}
	}
	for _, x := range []struct {
		at, n int
		e     api.Errno
	}{{0, -1, api.ErrArg}, {0, math.MinInt, api.ErrArg}, {0, 17, api.ErrRange}, {0, math.MaxInt, api.ErrRange}, {9, 8, api.ErrRange}, {math.MaxUint32, 1 << 40, api.ErrRange}, {16, 1, api.ErrRange}, {16, 0, api.OK}} {
		if b, e := m.Bytes(1, x.at, x.n); e != x.e || b != nil {
			t.Error(x, e)
		}
	}
	if _, e := m.Word(1, 9); e != api.ErrRange {
		t.Error(e)
	}
	if _, e := m.Alloc(1, 8, 3); e != api.ErrArg {
		t.Error(e)
	}
	if e := m.Put(1, 4, []byte("0123456789abcdef")); e != api.ErrRange {
		t.Error(e)
	}
	if b, _ := m.Bytes(1, 4, 12); string(b) != "01234567\x00\x00\x00\x00" {
		t.Errorf("what was put ahead of it is put: %q", b)
	}
	var n *Mem
	_, e1 := n.As(99)
	_, e2 := n.Alloc(0, -1, 0)
	_, e3 := n.Word(0, -1)
	_, e4 := n.Bytes(0, -1, 0)
	if e1 != api.ErrNil || e2 != api.ErrNil || e3 != api.ErrNil || e4 != api.ErrNil || n.Set(0, -1, 0) != api.ErrNil || n.Put(0, 0, nil) != api.ErrNil || n.Call(model.Call{}) != (model.Result{E: api.ErrNil}) || n.Task() != -1 || !reflect.DeepEqual(n.Core(), call.Core{}) {
		t.Error("nil")
	}
}

// P35.1: numbers that may just be.
func TestEdges(t *testing.T) {
	m := open(t, 4)
	root(t, m, 4)
	if _, e := m.Word(1, math.MaxUint32); e != api.ErrRange {
		t.Error(e)
	}
	if _, e := m.Alloc(1, math.MaxUint32, math.MaxUint32); e != api.ErrArg {
		t.Error(e)
	}
	if b, e := m.Bytes(1, 0, 0); b != nil || e != api.OK {
		t.Error(e)
	}
}

// P35.3, P35.5: what was put is read, and nothing else is another one.
func TestBytes(t *testing.T) {
	m := open(t, 64)
	root(t, m, 64)
	g := sample.New(35)
	var want []byte
	for range 12 {
		m.Alloc(1, 128, 1)
		want = append(want, make([]byte, 128)...)
	}
	for range 300 {
		n := g.N(40)
		at := g.N(len(want) - n + 1)
		b := make([]byte, n)
		for i := range b {
			b[i] = byte(g.N(256))
		}
		if e := m.Put(1, at, b); e != api.OK {
			t.Fatal(e)
		}
		copy(want[at:], b)
		if got, e := m.Bytes(1, 0, len(want)); e != api.OK || !bytes.Equal(got, want) {
			t.Fatal("read", at, n)
		}
	}
	b, _ := m.Bytes(1, 0, 8)
	v, _ := m.Word(1, 0)
	for i := range 8 {
		if b[i] != byte(v>>(8*i)) {
			t.Error("the lowest first")
		}
	}
}

// P35.4, P35.5
func TestAtomic(t *testing.T) {
	for seed := range 20 {
		g := sample.New(seed)
		m := open(t, 12)
		m.Call(model.Call{Do: model.Spawn, A: 1})
		for range 200 {
			h, _ := m.As(g.N(2))
			x := m.Core()
			c := g.Call(x.S, h.Task())
			n := x.S.Needs(h.Task(), c)
			whole := x.P.Free()
			for _, p := range x.Queue {
				whole, _ = whole.Give(p, 1)
			}
			_, later := whole.Find(n)
			at, now := x.P.Free().Find(n)
			if !now {
				at, _ = whole.Find(n)
			}
			r := h.Call(c)
			if n > 0 && r.E == api.ErrMem != !later {
				t.Fatal("there is memory", c, r)
			}
			if n > 0 && r.E == api.ErrMem {
				continue
			}
			run := runs.Run{}
			if n > 0 {
				run = runs.Run{At: at, N: n}
			}
			next, w, _ := x.S.Do(h.Task(), c, run)
			if c.Do == model.Load {
				r.V = 0
			}
			if r != w || !reflect.DeepEqual(next, m.Core().S) {
				t.Fatal(c, r, w)
			}
			if m.Core().M.Held(0) != nil || m.Core().M.Held(1) != nil {
				t.Fatal("a mark is left")
			}
		}
	}
}
