package budget

import (
	"math"
	"reflect"
	"testing"

	"bailiwick/api"
	"bailiwick/dump"
	"bailiwick/handle"
	"bailiwick/mem"
	"bailiwick/model"
	"bailiwick/runs"
	"bailiwick/sample"
)

// world is banks of the tasks 0, 1 and 2, that live, on one core.
type world struct {
	t *testing.T
	b [3]*Bank
}

func open(t *testing.T, pages int) *world {
	t.Helper()
	b, e := New(pages)
	if e != api.OK {
		t.Fatal(e)
	}
	w := &world{t: t}
	for k := range 3 {
		b.Do(model.Call{Do: model.Spawn, A: uint32(k)})
		w.b[k], _ = b.As(k)
	}
	return w
}

// want does a call, and holds its error against what is wanted; what is refused changes nothing.
func (w *world) want(task int, c model.Call, e api.Errno) model.Result {
	w.t.Helper()
	before := dumped(w.b[0])
	r := w.b[task].Do(c)
	if r.E != e || e != api.OK && dumped(w.b[0]) != before {
		w.t.Error(task, c, r, "wanted", e)
	}
	return r
}

func (w *world) tree(task int, sizes ...uint32) handle.Handle {
	w.t.Helper()
	h := w.want(task, model.Call{Do: model.New, A: 30}, api.OK).W
	for _, n := range sizes {
		w.want(task, model.Call{Do: model.Alloc, R: h, A: n, B: 1}, api.OK)
	}
	return h
}

func dumped(b *Bank) string {
	x := b.Hand().Core()
	s := dump.State(x.S)
	for _, p := range x.Queue {
		s += string(rune('A' + p))
	}
	return s
}

// P43.1
func TestHas(t *testing.T) {
	w := open(t, 30)
	a := w.tree(0, 90, 10)
	w.tree(0, 30)
	k := w.want(0, model.Call{Do: model.New, R: a, A: 9}, api.OK).W
	w.want(0, model.Call{Do: model.Alloc, R: k, A: 33, B: 1}, api.OK)
	f := w.tree(0, 64)
	w.want(0, model.Call{Do: model.Freeze, R: f}, api.OK)
	s := w.b[0].Hand().Core().S
	if Has(s, 0) != 7 || Has(s, 1) != 0 || Has(s, -1) != 0 || Has(s, 8) != 0 || Has(s, 256) != 0 || Most(s, a) != 6 || Most(s, k) != 2 || Most(s, f) != 2 || Most(s, 0) != 0 || Most(s, 99) != 0 {
		t.Error(Has(s, 0), Most(s, a))
	}
}

// P43.2
func TestLimits(t *testing.T) {
	w := open(t, 4)
	if n, e := w.b[0].Limit(7); n != 64 || e != api.OK {
		t.Error(n, e)
	}
	if e := w.b[1].Set(2, 5); e != api.OK {
		t.Error(e)
	}
	if n, _ := w.b[2].Limit(2); n != 5 || w.b[2].Hand().Task() != 2 {
		t.Error("shared", n)
	}
	if w.b[0].Set(3, 64) != api.OK || w.b[0].Set(0, 0) != api.OK {
		t.Error("edges")
	}
	for _, x := range [][2]int{{-1, 0}, {8, 0}, {math.MaxInt, 0}, {0, -1}, {0, 65}, {0, math.MinInt}} {
		if e := w.b[0].Set(x[0], x[1]); e != api.ErrArg {
			t.Error(x, e)
		}
	}
	for _, k := range []int{-1, 8, math.MaxInt} {
		n, e := w.b[0].Limit(k)
		b, f := w.b[0].As(k)
		if n != 0 || e != api.ErrArg || b != nil || f != api.ErrArg {
			t.Error(k, e, f)
		}
	}
	for _, p := range []int{0, 65} {
		if b, e := New(p); b != nil || e != api.ErrArg {
			t.Error(e)
		}
	}
	var n *Bank
	_, e1 := n.As(99)
	none, e2 := n.Limit(99)
	if none != 0 || e1 != api.ErrNil || e2 != api.ErrNil || n.Set(99, 99) != api.ErrNil || n.Hand() != nil || n.Do(model.Call{}) != (model.Result{E: api.ErrNil}) {
		t.Error("nil")
	}
}

// P43.3, and the document's example.
func TestReceive(t *testing.T) {
	for _, d := range []uint8{model.Recv, model.TryRecv} {
		w := open(t, 30)
		h := w.tree(0, 90)
		f := w.tree(0, 64)
		w.b[0].Set(1, 2)
		w.want(0, model.Call{Do: model.Freeze, R: f}, api.OK)
		w.want(0, model.Call{Do: model.Send, R: f, A: 1, B: 1}, api.OK)
		w.want(0, model.Call{Do: model.Send, R: h, A: 1, V: 4}, api.OK)
		if Has(w.b[0].Hand().Core().S, 0) != 0 {
			t.Error("in flight: nobody's")
		}
		w.tree(1, 10, 25)
		w.want(1, model.Call{Do: d}, api.OK)
		w.want(1, model.Call{Do: d}, api.ErrFull)
		w.b[0].Set(1, 4)
		w.want(1, model.Call{Do: d}, api.ErrFull)
		w.b[0].Set(1, 5)
		if r := w.want(1, model.Call{Do: d}, api.OK); r.V != 4 || r.W != h {
			t.Error(r)
		}
		w.want(1, model.Call{Do: d}, api.ErrEmpty)
		w.want(1, model.Call{Do: model.Close}, api.OK)
		w.want(1, model.Call{Do: d}, api.ErrClosed)
	}
}

// P43.3: Alloc.
func TestAlloc(t *testing.T) {
	w := open(t, 30)
	w.b[0].Set(0, 2)
	h := w.tree(0, 40)
	w.want(0, model.Call{Do: model.Alloc, R: h, A: 20, B: 1}, api.OK)
	w.want(0, model.Call{Do: model.Alloc, R: h, A: 20, B: 1}, api.ErrMem)
	w.want(0, model.Call{Do: model.Alloc, R: h, A: 20, B: 3}, api.ErrArg)
	w.want(0, model.Call{Do: model.Alloc, R: 99, A: 20, B: 1}, api.ErrStale)
	w.want(1, model.Call{Do: model.Alloc, R: h, A: 20, B: 1}, api.ErrAccess)
	w.want(0, model.Call{Do: model.Lend, R: h, A: 1, B: 1}, api.OK)
	w.want(1, model.Call{Do: model.Alloc, R: h, A: 20, B: 1}, api.ErrMem)
	w.b[0].Set(1, 0)
	w.b[0].Set(0, 3)
	w.want(1, model.Call{Do: model.Alloc, R: h, A: 20, B: 1}, api.OK)
	w.b[0].Set(0, 0)
	w.want(1, model.Call{Do: model.Alloc, R: h, A: 4, B: 1}, api.OK)
	w.want(1, model.Call{Do: model.Store, R: h, A: 0, B: 4}, api.OK)
	w.want(1, model.Call{Do: model.New, R: h, A: 9}, api.OK)
}

// P43.3: Graft, below a region of another task's.
func TestGraft(t *testing.T) {
	w := open(t, 30)
	h := w.tree(0, 40)
	w.want(0, model.Call{Do: model.Lend, R: h, A: 1, B: 1}, api.OK)
	g := w.tree(1, 90)
	k := w.tree(1, 10)
	w.b[0].Set(0, 4)
	w.want(1, model.Call{Do: model.Graft, R: g, S: h}, api.ErrFull)
	w.want(2, model.Call{Do: model.Graft, R: g, S: h}, api.ErrAccess)
	w.b[0].Set(1, 0)
	w.want(1, model.Call{Do: model.Graft, R: g, S: k}, api.OK)
	w.b[0].Set(0, 6)
	w.want(1, model.Call{Do: model.Graft, R: k, S: h}, api.OK)
	if Has(w.b[0].Hand().Core().S, 0) != 6 {
		t.Error("has")
	}
}

// P43.3: Kill and Exit, of tasks whose messages bounce.
func TestDeath(t *testing.T) {
	w := open(t, 30)
	h, g := w.tree(0, 90), w.tree(0, 64)
	x := w.tree(2, 10)
	w.want(0, model.Call{Do: model.Send, R: h, A: 1}, api.OK)
	w.want(0, model.Call{Do: model.Send, R: g, A: 1}, api.OK)
	w.want(2, model.Call{Do: model.Send, R: x, A: 1}, api.OK)
	w.b[0].Set(0, 4)
	w.b[0].Set(2, 0)
	w.want(2, model.Call{Do: model.Kill, A: 1}, api.ErrFull)
	w.want(2, model.Call{Do: model.Kill, A: 5}, api.ErrArg)
	w.want(2, model.Call{Do: model.Send, A: 1}, api.OK)
	w.want(1, model.Call{Do: model.Exit}, api.ErrFull)
	w.b[0].Set(0, 5)
	w.want(1, model.Call{Do: model.Exit}, api.ErrFull)
	w.want(2, model.Call{Do: model.Exit}, api.OK)
	w.want(0, model.Call{Do: model.Kill, A: 1}, api.OK)
	if s := w.b[0].Hand().Core().S; Has(s, 0) != 5 || s.T.Good(x) {
		t.Error(Has(s, 0))
	}
	w.b[0].Set(0, 0)
	w.want(0, model.Call{Do: model.Kill, A: 0}, api.OK)
	if len(w.b[0].Hand().Core().S.T.All()) != 0 {
		t.Error("nobody lives")
	}
}

// P43.3: what has more than its limit, since that was set lower, may go on, as long as it gets no pages.
func TestWithoutPages(t *testing.T) {
	for _, d := range []uint8{model.Recv, model.TryRecv} {
		w := open(t, 4)
		w.tree(0, 1)
		bare, full := w.tree(0), w.tree(1, 1)
		w.want(0, model.Call{Do: model.Send, R: bare, V: 7}, api.OK)
		w.want(1, model.Call{Do: model.Send, R: full}, api.OK)
		w.b[0].Set(0, 0)
		if r := w.want(0, model.Call{Do: d}, api.OK); r.V != 7 || r.W != bare {
			t.Error(r)
		}
		w.want(0, model.Call{Do: d}, api.ErrFull)
		w.b[0].Set(0, 1)
		w.want(0, model.Call{Do: d}, api.ErrFull)
		w.b[0].Set(0, 2)
		w.want(0, model.Call{Do: d}, api.OK)
	}
}

// P43.3: the same, of what bounces.
func TestDeathWithoutPages(t *testing.T) {
	for _, c := range []struct {
		task int
		c    model.Call
	}{{0, model.Call{Do: model.Kill, A: 1}}, {1, model.Call{Do: model.Exit}}, {1, model.Call{Do: model.Kill, A: 1}}} {
		w := open(t, 8)
		w.tree(0, 64)
		bare, none := w.tree(0), w.tree(2)
		w.tree(2, 1)
		w.tree(1, 1)
		w.want(0, model.Call{Do: model.Send, R: bare, A: 1}, api.OK)
		w.want(2, model.Call{Do: model.Send, R: none, A: 1}, api.OK)
		w.b[0].Set(0, 0)
		w.b[0].Set(2, 0)
		w.want(c.task, c.c, api.OK)
		if s := w.b[0].Hand().Core().S; Has(s, 0) != 2 || Has(s, 2) != 1 || s.Alive[1] || !s.T.Good(bare) || !s.T.Good(none) {
			t.Error(c, Has(s, 0), Has(s, 2))
		}
	}
	w := open(t, 8)
	w.tree(0, 64)
	bare, full := w.tree(0), w.tree(0, 1)
	w.want(0, model.Call{Do: model.Send, R: full, A: 1}, api.OK)
	w.want(0, model.Call{Do: model.Send, R: bare, A: 1}, api.OK)
	w.b[0].Set(0, 2)
	w.want(1, model.Call{Do: model.Exit}, api.ErrFull)
	w.b[0].Set(0, 3)
	w.want(1, model.Call{Do: model.Exit}, api.OK)
}

// P43.3: the same, of a tree that is grafted.
func TestGraftWithoutPages(t *testing.T) {
	w := open(t, 8)
	h := w.tree(0, 64)
	bare, full := w.tree(1), w.tree(1, 1)
	w.want(0, model.Call{Do: model.Lend, R: h, A: 1, B: 1}, api.OK)
	w.b[0].Set(0, 1)
	w.b[0].Set(1, 0)
	w.want(1, model.Call{Do: model.Graft, R: full, S: h}, api.ErrFull)
	w.want(1, model.Call{Do: model.Graft, R: bare, S: h}, api.OK)
	w.b[0].Set(0, 2)
	w.want(1, model.Call{Do: model.Graft, R: full, S: h}, api.ErrFull)
	w.b[0].Set(0, 3)
	w.want(1, model.Call{Do: model.Graft, R: full, S: h}, api.OK)
}

// P43.4, P43.5
func TestWhatever(t *testing.T) {
	refused := 0
	for seed := range 40 {
		g := sample.New(seed)
		w := open(t, 24)
		free, _ := mem.Open(24)
		for k := range 3 {
			free.Call(model.Call{Do: model.Spawn, A: uint32(k)})
		}
		wide := open(t, 24)
		for k := range 3 {
			w.b[0].Set(k, 2+g.N(6))
		}
		for range 250 {
			task := g.N(3)
			c := g.Call(w.b[0].Hand().Core().S, task)
			before := dumped(w.b[0])
			m, _ := w.b[task].Hand().As(task)
			e := check(m, c)
			r := w.b[task].Do(c)
			if r.E != api.OK && e == api.OK && (r.E == api.ErrMem || r.E == api.ErrFull) {
				refused++
				if dumped(w.b[0]) != before && c.Do != model.Alloc {
					t.Fatal("refused", c)
				}
			}
			for k := range 3 {
				if n, _ := w.b[0].Limit(k); Has(w.b[0].Hand().Core().S, k) > n {
					t.Fatal("more than its limit", k, c)
				}
			}
			h, _ := free.As(task)
			if a, b := wide.b[task].Do(c), h.Call(c); a != b || !reflect.DeepEqual(wide.b[0].Hand().Core().S, free.Core().S) {
				t.Fatal("limits of MaxPages refuse nothing", c, a, b)
			}
		}
	}
	if refused < 10 {
		t.Error("too few", refused)
	}
}

// check is what a call would answer, if there were no limits, and pages enough.
func check(m *mem.Mem, c model.Call) api.Errno {
	s := m.Core().S
	if s.Needs(m.Task(), c) > 0 {
		return api.OK
	}
	_, r, _ := s.Do(m.Task(), c, runs.Run{})
	return r.E
}
