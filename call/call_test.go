package call_test

import (
	"reflect"
	"slices"
	"testing"

	"bailiwick/api"
	. "bailiwick/call"
	"bailiwick/handle"
	"bailiwick/model"
	"bailiwick/runs"
	"bailiwick/sample"
)

func open(t *testing.T, pages int) *Core {
	t.Helper()
	x, e := New(pages)
	if e != api.OK {
		t.Fatal(e)
	}
	return x
}

// done does a call to its end, and tells how many steps it took.
func done(t *testing.T, x *Core, task int, c model.Call) (model.Result, int) {
	t.Helper()
	u := Call{Task: task, C: c}
	for n := 1; n < 200; n++ {
		next, r, ended := x.Step(u)
		if ended {
			return r, n
		}
		u = next
	}
	t.Fatal("no end", c)
	return model.Result{}, 0
}

func want(t *testing.T, x *Core, c model.Call, w model.Result, steps int) {
	t.Helper()
	if r, n := done(t, x, 0, c); r != w || n != steps {
		t.Error(c, r, n)
	}
}

// P17.1, and the document's example: how many steps each call takes.
func TestSteps(t *testing.T) {
	x := open(t, 8)
	want(t, x, model.Call{Do: model.New, A: 8}, model.Result{W: 1}, 2)
	want(t, x, model.Call{Do: model.New, R: 1, A: 4}, model.Result{W: 2}, 3)
	want(t, x, model.Call{Do: model.Alloc, R: 1, A: 40, B: 8}, model.Result{}, 6)
	want(t, x, model.Call{Do: model.Alloc, R: 1, A: 8, B: 8}, model.Result{V: 40}, 3)
	want(t, x, model.Call{Do: model.Store, R: 1, A: 30, B: 8, V: 0x0102030405060708}, model.Result{}, 3)
	want(t, x, model.Call{Do: model.Load, R: 1, A: 30, B: 3}, model.Result{V: 0x060708}, 3)
	want(t, x, model.Call{Do: model.Load, R: 1, A: 37, B: 8}, model.Result{V: 1}, 3)
	want(t, x, model.Call{Do: model.Load, R: 9, A: 37, B: 8}, model.Result{E: api.ErrStale}, 1)
	want(t, x, model.Call{Do: model.Freeze, R: 1}, model.Result{}, 4)
	want(t, x, model.Call{Do: model.Drop, R: 1}, model.Result{}, 4)
	if !slices.Equal(x.Queue, []int{0, 1}) || x.P.Free().Count() != 6 {
		t.Error(x.Queue)
	}
}

// P17.1: what waits, what has no memory, and pages that are cleared.
func TestEnds(t *testing.T) {
	x := open(t, 2)
	c := Call{C: model.Call{Do: model.Recv}}
	before := *x
	for range 3 {
		next, r, ended := x.Step(c)
		if ended || r != (model.Result{}) || !reflect.DeepEqual(next, c) || !reflect.DeepEqual(*x, before) {
			t.Error("it waits", next, r)
		}
	}
	done(t, x, 0, model.Call{Do: model.New, A: 9})
	done(t, x, 0, model.Call{Do: model.Alloc, R: 1, A: 30, B: 1})
	want(t, x, model.Call{Do: model.Alloc, R: 1, A: 40, B: 1}, model.Result{E: api.ErrMem}, 3)
	if x.M.Held(0) != nil {
		t.Error("marks")
	}
	want(t, x, model.Call{Do: model.Store, R: 1, A: 0, B: 1, V: 77}, model.Result{}, 3)
	want(t, x, model.Call{Do: model.Reset, R: 1}, model.Result{}, 3)
	if !x.Reap() || x.Reap() || x.P.Free().Count() != 2 {
		t.Error("reap")
	}
	want(t, x, model.Call{Do: model.Alloc, R: 1, A: 30, B: 1}, model.Result{}, 5)
	want(t, x, model.Call{Do: model.Load, R: 1, A: 0, B: 1}, model.Result{}, 3)
	x.Reap()
	x.Reap()
	done(t, x, 0, model.Call{Do: model.New, A: 9})
	want(t, x, model.Call{Do: model.Reset, R: 1}, model.Result{}, 3)
	x.Reap()
	for range 2 {
		want(t, x, model.Call{Do: model.Alloc, R: 2, A: 64, B: 1}, model.Result{}, 6)
		want(t, x, model.Call{Do: model.Load, R: 2, A: 33, B: 8}, model.Result{}, 3)
		want(t, x, model.Call{Do: model.Store, R: 2, A: 33, B: 8, V: 99}, model.Result{}, 3)
		want(t, x, model.Call{Do: model.Reset, R: 2}, model.Result{}, 3)
		x.Reap()
		x.Reap()
	}
	want(t, x, model.Call{Do: model.Send}, model.Result{}, 2)
	want(t, x, model.Call{Do: model.Recv}, model.Result{}, 2)
}

// P17.1: marks between calls, one that answers an error at its commit, and one that is cut off.
func TestBetween(t *testing.T) {
	x := open(t, 8)
	done(t, x, 0, model.Call{Do: model.Spawn, A: 1})
	done(t, x, 0, model.Call{Do: model.New, A: 9})
	done(t, x, 0, model.Call{Do: model.Lend, R: 1, A: 1, B: 1})
	a := Call{Task: 1, C: model.Call{Do: model.Alloc, R: 1, A: 40, B: 1}}
	for range 4 {
		a, _, _ = x.Step(a)
	}
	if !a.Checked || len(a.Regions) != 0 || a.Run != (runs.Run{At: 0, N: 2}) || a.Cleared != 1 || !slices.Equal(x.M.Held(1), []int{0}) {
		t.Error(a)
	}
	b := Call{Task: 1, C: model.Call{Do: model.Alloc, R: 1, A: 1, B: 1}}
	x.Step(b)
	cut := *x
	cut.Cut(a)
	if !slices.Equal(cut.Queue, []int{0, 1}) || cut.M.Held(1) != nil {
		t.Error(cut.Queue)
	}
	done(t, x, 1, model.Call{Do: model.New, A: 1})
	a, _, _ = x.Step(a)
	x.S, _, _ = x.S.Do(1, model.Call{Do: model.Return, S: 1}, runs.Run{})
	_, r, ended := x.Step(a)
	if !ended || r != (model.Result{E: api.ErrAccess}) || !slices.Equal(x.Queue, []int{0, 1}) {
		t.Error(r, x.Queue)
	}
	d, _, _ := x.Step(Call{C: model.Call{Do: model.Reset, R: 1}})
	d, _, _ = x.Step(d)
	e, _, _ := x.Step(Call{Task: 1, C: model.Call{Do: model.New, A: 1}})
	if len(d.Regions) != 0 || e.Regions != nil || !slices.Equal(x.M.Held(0), []int{0}) {
		t.Error(d, e)
	}
}

// R3: cores that were copied do not share their queues.
func TestCopied(t *testing.T) {
	x := open(t, 8)
	x.Queue = make([]int, 0, 8)
	y, z := *x, *x
	y.Cut(Call{Run: runs.Run{At: 1, N: 2}})
	z.Cut(Call{Run: runs.Run{At: 4, N: 1}})
	if !slices.Equal(y.Queue, []int{1, 2}) || !slices.Equal(z.Queue, []int{4}) || len(x.Queue) != 0 {
		t.Error(y.Queue, z.Queue)
	}
}

// R1: nil cores, and those without a pool.
func TestNil(t *testing.T) {
	var n *Core
	c, r, ended := n.Step(Call{Checked: true})
	n.Cut(Call{})
	if !reflect.DeepEqual(c, Call{}) || r != (model.Result{}) || ended || n.Reap() {
		t.Error("nil")
	}
	for _, p := range []int{0, 65, -1} {
		if x, e := New(p); x != nil || e != api.ErrArg {
			t.Error(e)
		}
	}
	z := &Core{S: model.Begin(), Queue: []int{5}}
	z.Reap()
	done(t, z, 0, model.Call{Do: model.New, A: 3})
	if r, _ := done(t, z, 0, model.Call{Do: model.Alloc, R: 1, A: 3, B: 1}); r.E != api.ErrMem {
		t.Error(r)
	}
}

// P17.3: alone, a call answers what it does all at once; steps ahead of the commit change no state; each page is once.
func TestAlone(t *testing.T) {
	for seed := range 30 {
		g := sample.New(seed)
		x := open(t, 12)
		done(t, x, 0, model.Call{Do: model.Spawn, A: 1})
		bytes := map[handle.Handle]map[int]byte{}
		for range 150 {
			task := g.N(2)
			c := g.Call(x.S, task)
			at, ok := x.P.Free().Find(max(x.S.Needs(task, c), 1))
			run := runs.Run{At: at, N: x.S.Needs(task, c)}
			if c.Do == model.Recv || run.N > 0 && !ok {
				continue
			}
			next, w, _ := x.S.Do(task, c, run)
			u, state := Call{Task: task, C: c}, x.S
			for {
				v, r, ended := x.Step(u)
				whole(t, x, v)
				if ended {
					follow(t, bytes, c, r)
					if c.Do == model.Load {
						r.V = 0
					}
					if r != w || !reflect.DeepEqual(x.S, next) {
						t.Fatal(c, r, w)
					}
					break
				}
				if !reflect.DeepEqual(x.S, state) {
					t.Fatal("a step changed the state", c)
				}
				u = v
			}
			if g.N(3) == 0 {
				x.Reap()
			}
		}
	}
}

// follow holds what is loaded against what was stored last.
func follow(t *testing.T, bytes map[handle.Handle]map[int]byte, c model.Call, r model.Result) {
	if r.E != api.OK || c.Do != model.Load && c.Do != model.Store && c.Do != model.Reset {
		return
	}
	if bytes[c.R] == nil || c.Do == model.Reset {
		bytes[c.R] = map[int]byte{}
	}
	for i := range int(c.B) {
		at := int(c.A) + i
		if c.Do == model.Store {
			bytes[c.R][at] = byte(c.V >> (8 * i))
		} else if byte(r.V>>(8*i)) != bytes[c.R][at] {
			t.Fatal("loaded another byte", c, r, at)
		}
	}
}

// whole asks whether each page is free, or a region's, or the call's, or in the queue, once.
func whole(t *testing.T, x *Core, c Call) {
	n := map[int]int{}
	l := append(x.P.Free().All(), c.Run)
	for _, h := range x.S.T.All() {
		r, _ := x.S.T.Get(h)
		l = append(l, r.E.Runs...)
	}
	for _, p := range x.Queue {
		l = append(l, runs.Run{At: p, N: 1})
	}
	for _, r := range l {
		for p := r.At; p < r.At+r.N; p++ {
			n[p]++
		}
	}
	for p := range x.P.Pages() {
		if n[p] != 1 {
			t.Fatal("page", p, n[p])
		}
	}
}
