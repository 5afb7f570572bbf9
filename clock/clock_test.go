package clock_test

import (
	"math"
	"reflect"
	"slices"
	"testing"

	"bailiwick/api"
	. "bailiwick/clock"
	"bailiwick/handle"
	"bailiwick/machine"
	"bailiwick/model"
	"bailiwick/runs"
	"bailiwick/sample"
	"bailiwick/trace"
)

// row is events, done one behind the other.
type row struct {
	s model.State
	l []machine.Event
}

func (r *row) do(task int, c model.Call) model.Result {
	n := r.s.Needs(task, c)
	run := runs.Run{At: len(r.l), N: n}
	if n == 0 {
		run = runs.Run{}
	}
	next, x, _ := r.s.Do(task, c, run)
	r.s = next
	r.l = append(r.l, machine.Event{Task: task, C: c, Run: run, R: x, From: len(r.l), To: len(r.l)})
	return x
}

// made is a row behind which the tasks 0 and 1 live, 0 has 1 above 2 above 3, and 4, that it lends to 1 (token 1), and 1 has 5; a cell of 2 names 1.
func made() *row {
	r := &row{s: model.Begin()}
	r.do(0, model.Call{Do: model.Spawn, A: 1})
	r.do(0, model.Call{Do: model.New, A: 4})
	r.do(0, model.Call{Do: model.New, R: 1, A: 4})
	r.do(0, model.Call{Do: model.New, R: 2, A: 4})
	r.do(0, model.Call{Do: model.New, A: 4})
	r.do(1, model.Call{Do: model.New, A: 4})
	r.do(0, model.Call{Do: model.Lend, R: 4, A: 1})
	r.do(0, model.Call{Do: model.Ref, R: 2, A: 3, S: 1})
	return r
}

// P29.1
func TestOf(t *testing.T) {
	s := made().s
	gone := handle.Handle(300)
	for _, x := range []struct {
		task int
		c    model.Call
		w    handle.Handle
		want Touch
	}{
		{0, model.Call{Do: model.New}, 6, Touch{Lives: 1, Table: true, Regions: 32}},
		{0, model.Call{Do: model.New, R: 2}, 0, Touch{Lives: 1, Table: true, Regions: 2}},
		{1, model.Call{Do: model.Alloc, R: 1}, 0, Touch{Lives: 2, Regions: 1}}, {0, model.Call{Do: model.Load, R: 1}, 0, Touch{Lives: 1, Regions: 1}},
		{0, model.Call{Do: model.Store, R: gone}, 0, Touch{Lives: 1, Table: true}}, {0, model.Call{Do: model.Reset}, 0, Touch{Lives: 1}},
		{0, model.Call{Do: model.Delete, R: 2}, 0, Touch{Lives: 1, Regions: 6, Table: true, Tokens: true}},
		{0, model.Call{Do: model.Cut, R: 1}, 0, Touch{Lives: 1, Regions: 7}}, {0, model.Call{Do: model.Cut, R: gone}, 0, Touch{Lives: 1, Table: true}},
		{0, model.Call{Do: model.Graft, R: 2, S: 4}, 0, Touch{Lives: 1, Regions: 14}}, {0, model.Call{Do: model.Graft, R: 4, S: 1}, 0, Touch{Lives: 1, Regions: 9}}, {0, model.Call{Do: model.Graft, R: 4, S: gone}, 0, Touch{Lives: 1, Regions: 8, Table: true}},
		{0, model.Call{Do: model.Freeze, R: 1}, 0, Touch{Lives: 1, Regions: 7}}, {0, model.Call{Do: model.Share, R: 1}, 0, Touch{Lives: 1, Regions: 7, Tasks: true}},
		{0, model.Call{Do: model.Drop, R: 1}, 0, Touch{Lives: 1, Regions: 7, Table: true, Tokens: true}},
		{0, model.Call{Do: model.Lend, R: 1, S: gone}, 0, Touch{Lives: 1, Regions: 1, Tokens: true, Tasks: true}},
		{1, model.Call{Do: model.Return, S: 1}, 0, Touch{Lives: 2, Regions: 8, Tokens: true}}, {1, model.Call{Do: model.Return, S: gone}, 0, Touch{Lives: 2, Tokens: true}},
		{0, model.Call{Do: model.Send, R: 2, A: 7}, 0, Touch{Lives: 1, Regions: 6, Boxes: 128, Tasks: true}}, {0, model.Call{Do: model.Send, A: 8}, 0, Touch{Lives: 1, Tasks: true}},
		{1, model.Call{Do: model.Recv}, 0, Touch{Lives: 2, Boxes: 2}}, {0, model.Call{Do: model.TryRecv}, 0, Touch{Lives: 1, Boxes: 1}}, {1, model.Call{Do: model.Close}, 0, Touch{Lives: 2, Boxes: 2}},
		{0, model.Call{Do: model.Ref, R: 3, S: 1}, 0, Touch{Lives: 1, Regions: 5}}, {0, model.Call{Do: model.Ref, R: 3, S: gone}, 0, Touch{Lives: 1, Regions: 4, Table: true}},
		{0, model.Call{Do: model.Deref, R: 2, A: 3}, 0, Touch{Lives: 1, Regions: 3}}, {0, model.Call{Do: model.Deref, R: 2, A: 4}, 0, Touch{Lives: 1, Regions: 2}}, {0, model.Call{Do: model.Deref, R: 2, A: math.MaxUint32}, 0, Touch{Lives: 1, Regions: 2}},
		{0, model.Call{Do: model.Spawn, A: 3}, 0, Touch{Lives: 9, Tasks: true}}, {0, model.Call{Do: model.Spawn, A: 99}, 0, Touch{Lives: 1, Tasks: true}},
		{0, model.Call{Do: model.Exit, R: 1}, 0, Touch{All: true}}, {0, model.Call{Do: model.Kill, A: 1}, 0, Touch{All: true}},
		{0, model.Call{R: 1}, 0, Touch{Lives: 1}}, {0, model.Call{Do: 23, R: 1}, 0, Touch{Lives: 1}},
		{2, model.Call{Do: model.Load}, 0, Touch{All: true}}, {-1, model.Call{}, 0, Touch{All: true}}, {8, model.Call{Do: model.Load}, 0, Touch{All: true}}, {math.MaxInt, model.Call{}, 0, Touch{All: true}},
	} {
		if got := Of(s, machine.Event{Task: x.task, C: x.c, R: model.Result{W: x.w}}); got != x.want {
			t.Error(x, got)
		}
	}
	r := made()
	r.do(0, model.Call{Do: model.Send, R: 2, A: 1})
	if got := Of(r.s, machine.Event{Task: 1, C: model.Call{Do: model.Recv}}); got != (Touch{Lives: 2, Boxes: 2, Regions: 6}) {
		t.Error(got)
	}
}

// P29.1, and the document's examples.
func TestMeets(t *testing.T) {
	for _, x := range []struct {
		a, b Touch
		is   bool
	}{
		{Touch{}, Touch{}, false}, {Touch{All: true}, Touch{}, true}, {Touch{Lives: 1}, Touch{Lives: 2}, false}, {Touch{Lives: 3}, Touch{Lives: 2}, true},
		{Touch{Regions: 1 << 31}, Touch{Regions: 1 << 31}, true}, {Touch{Regions: 1}, Touch{Regions: 2, Boxes: 1}, false}, {Touch{Boxes: 4}, Touch{Boxes: 4}, true},
		{Touch{Table: true}, Touch{Tokens: true, Tasks: true}, false}, {Touch{Table: true}, Touch{Table: true}, true}, {Touch{Tokens: true}, Touch{Tokens: true}, true}, {Touch{Tasks: true}, Touch{Tasks: true}, true},
	} {
		if x.a.Meets(x.b) != x.is || x.b.Meets(x.a) != x.is {
			t.Error(x)
		}
	}
	s := made().s
	of := func(task int, c model.Call, w handle.Handle) Touch {
		return Of(s, machine.Event{Task: task, C: c, R: model.Result{W: w}})
	}
	if of(0, model.Call{Do: model.Store, R: 1, B: 1}, 0).Meets(of(1, model.Call{Do: model.Store, R: 5, B: 1}, 0)) {
		t.Error("two tasks store, each into a region of its own")
	}
	if !of(0, model.Call{Do: model.New}, 6).Meets(of(1, model.Call{Do: model.New}, 7)) {
		t.Error("both make a root")
	}
}

// P29.2, P29.3
func TestHangs(t *testing.T) {
	r := &row{s: model.Begin()}
	r.do(0, model.Call{Do: model.Spawn, A: 1})
	r.do(0, model.Call{Do: model.New, A: 4})
	r.do(1, model.Call{Do: model.Close})
	r.do(1, model.Call{Do: model.New, A: 4})
	hangs, ok := Hangs(r.l)
	if !ok || !reflect.DeepEqual(hangs, [][]bool{{false, false, false, false}, {true, false, false, false}, {true, false, false, false}, {true, true, true, false}}) {
		t.Error(hangs)
	}
	clocks, ok := Clocks(r.l)
	if !ok || !slices.Equal(clocks, []Clock{{1}, {2}, {1, 1}, {2, 2}}) {
		t.Error(clocks)
	}
	m, ok := Swap(r.l, 1)
	if !ok || !slices.Equal(m, []machine.Event{r.l[0], r.l[2], r.l[1], r.l[3]}) || r.l[1].Task != 0 {
		t.Error(m)
	}
	if m, ok := Swap([]machine.Event{r.l[0], r.l[1], r.l[2]}[:], 1); !ok || len(m) != 3 {
		t.Error(m)
	}
	first := &row{s: model.Begin()}
	first.do(0, model.Call{Do: model.Spawn, A: 1})
	first.do(1, model.Call{Do: model.Close})
	refused := []machine.Event{{Task: 0, C: model.Call{Do: model.Close}}, first.l[0], first.l[1]}
	if m, ok := Swap(refused, 1); ok || m != nil {
		t.Error("they meet")
	}
	for _, i := range []int{-1, 0, 2, 3, 4, math.MaxInt, math.MinInt} {
		if m, ok := Swap(r.l, i); ok || m != nil {
			t.Error(i)
		}
	}
	r.l[3].R.W = 9
	h, ok1 := Hangs(r.l)
	c, ok2 := Clocks(r.l)
	m, ok3 := Swap(r.l, 1)
	if ok1 || ok2 || ok3 || h != nil || c != nil || m != nil {
		t.Error("they do not agree")
	}
	odd := []machine.Event{{Task: 99, R: model.Result{E: api.ErrState}}, {Task: -1, C: model.Call{Do: model.New}, R: model.Result{E: api.ErrState}}}
	c, ok2 = Clocks(odd)
	if h, ok := Hangs(odd); !ok || !ok2 || !slices.Equal(c, []Clock{{}, {}}) || !h[1][0] {
		t.Error("tasks that there are not", c)
	}
	h, ok1 = Hangs(nil)
	c, ok2 = Clocks(nil)
	if !ok1 || !ok2 || len(h) != 0 || len(c) != 0 {
		t.Error("none")
	}
}

// P29.4, P29.5, P7 of the whole
func TestMachines(t *testing.T) {
	swaps := 0
	for seed := range 24 {
		m, _, _ := machine.Run(sample.New(seed).Script(4, 400))
		l := m.Events()
		hangs, ok := Hangs(l)
		clocks, _ := Clocks(l)
		if !ok {
			t.Fatal("agree", seed)
		}
		for i, e := range l {
			for j, f := range l {
				if hangs[i][j] != (i != j && clocks[j][f.Task] <= clocks[i][f.Task]) || hangs[i][j] && j >= i || j < i && e.Task == f.Task && !hangs[i][j] {
					t.Fatal("hangs", i, j)
				}
			}
		}
		want, _ := trace.Replay(l)
		for i := range l {
			n, ok := Swap(l, i)
			if !ok {
				continue
			}
			swaps++
			if s, agree := trace.Replay(n); !agree || !reflect.DeepEqual(s, want) {
				t.Fatal("swapped", seed, l[i], l[i+1])
			}
		}
	}
	if swaps < 100 {
		t.Error("too few", swaps)
	}
}
