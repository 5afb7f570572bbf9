package plan_test

import (
	"reflect"
	"slices"
	"testing"

	"bailiwick/api"
	"bailiwick/forest"
	"bailiwick/handle"
	"bailiwick/model"
	. "bailiwick/plan"
	"bailiwick/runs"
	"bailiwick/sample"
)

type hs = []handle.Handle

// made is a state in which the task 0 has the regions 1 above 2 above 3, and 4, and the task 1 lives.
func made(t *testing.T) model.State {
	t.Helper()
	s := model.Begin()
	for _, c := range []model.Call{{Do: model.Spawn, A: 1}, {Do: model.New, A: 4}, {Do: model.New, R: 1, A: 4}, {Do: model.New, R: 2, A: 4}, {Do: model.New, A: 4}} {
		next, r, _ := s.Do(0, c, runs.Run{})
		if r.E != api.OK {
			t.Fatal(r)
		}
		s = next
	}
	return s
}

// P16.1, and the document's example.
func TestRegions(t *testing.T) {
	s := made(t)
	s, r, _ := s.Do(0, model.Call{Do: model.Lend, R: 4, A: 1}, runs.Run{})
	for _, x := range []struct {
		c model.Call
		l hs
	}{
		{model.Call{Do: model.Delete, R: 2}, hs{2, 3}},
		{model.Call{Do: model.Cut, R: 1}, hs{1, 2, 3}}, {model.Call{Do: model.Freeze, R: 3}, hs{3}}, {model.Call{Do: model.Drop, R: 1}, hs{1, 2, 3}},
		{model.Call{Do: model.New}, nil}, {model.Call{Do: model.New, R: 1}, hs{1}}, {model.Call{Do: model.New, R: 9}, nil},
		{model.Call{Do: model.Alloc, R: 1}, hs{1}}, {model.Call{Do: model.Load, R: 1}, hs{1}}, {model.Call{Do: model.Store, R: 1}, hs{1}},
		{model.Call{Do: model.Reset, R: 1}, hs{1}}, {model.Call{Do: model.Share, R: 1}, hs{1}}, {model.Call{Do: model.Lend, R: 1, S: 99}, hs{1}},
		{model.Call{Do: model.Ref, R: 1, S: 3}, hs{1}}, {model.Call{Do: model.Deref, R: 1}, hs{1}}, {model.Call{Do: model.Load, R: 257}, nil},
		{model.Call{Do: model.Send, R: 1}, hs{1, 2, 3}}, {model.Call{Do: model.Send, R: 1, B: 1}, hs{1}}, {model.Call{Do: model.Send, R: 1, B: 2}, hs{1, 2, 3}},
		{model.Call{Do: model.Send}, nil}, {model.Call{Do: model.Send, B: 1}, nil},
		{model.Call{Do: model.Graft, R: 2, S: 4}, hs{2, 3, 4}}, {model.Call{Do: model.Graft, R: 2, S: 3}, hs{2, 3}}, {model.Call{Do: model.Graft, R: 2, S: 9}, nil}, {model.Call{Do: model.Graft, R: 9, S: 2}, nil},
		{model.Call{Do: model.Return, S: r.W, R: 1}, hs{4}}, {model.Call{Do: model.Return, S: 9, R: 1}, nil},
		{model.Call{Do: model.Recv, R: 1}, nil}, {model.Call{Do: model.TryRecv, R: 1}, nil}, {model.Call{Do: model.Close, R: 1}, nil},
		{model.Call{Do: model.Exit, R: 1}, nil}, {model.Call{Do: model.Kill, R: 1}, nil}, {model.Call{Do: model.Spawn, R: 1}, nil}, {model.Call{R: 1}, nil}, {model.Call{Do: 99, R: 1}, nil},
	} {
		if l := Regions(s, x.c); !slices.Equal(l, x.l) {
			t.Error(x, l)
		}
	}
}

// P16.2, P16.3
func TestCheck(t *testing.T) {
	s := made(t)
	for _, x := range []struct {
		task int
		c    model.Call
		e    api.Errno
	}{
		{0, model.Call{Do: model.Alloc, R: 1, A: 8, B: 8}, api.OK}, {0, model.Call{Do: model.Alloc, R: 9, A: 8, B: 8}, api.ErrStale},
		{1, model.Call{Do: model.Alloc, R: 1, A: 8, B: 8}, api.ErrAccess}, {0, model.Call{Do: model.Alloc, R: 1, A: 8, B: 7}, api.ErrArg},
		{2, model.Call{Do: model.New}, api.ErrState}, {0, model.Call{Do: model.New, A: 65}, api.ErrArg}, {0, model.Call{Do: model.Recv}, api.ErrEmpty},
		{0, model.Call{Do: model.TryRecv}, api.ErrEmpty}, {0, model.Call{Do: model.Exit}, api.OK},
	} {
		if e := Check(s, x.task, x.c); e != x.e {
			t.Error(x, e)
		}
		if Waits(s, x.task, x.c) != (x.c.Do == model.Recv) {
			t.Error("waits", x)
		}
	}
	if Waits(s, 5, model.Call{Do: model.Recv}) {
		t.Error("a task that does not live")
	}
	s, _, _ = s.Do(0, model.Call{Do: model.Send, A: 1}, runs.Run{})
	s, _, _ = s.Do(0, model.Call{Do: model.Close}, runs.Run{})
	if Waits(s, 1, model.Call{Do: model.Recv}) || Waits(s, 0, model.Call{Do: model.Recv}) {
		t.Error("a message, or a box that is closed")
	}
}

// P16.2, P16.4: a check is what is answered; what is changed was to be marked, or is new.
func TestChanges(t *testing.T) {
	for seed := range 30 {
		g := sample.New(seed)
		s := made(t)
		page := 0
		for range 200 {
			task := g.N(2)
			c := g.Call(s, task)
			run := runs.Run{}
			if n := s.Needs(task, c); n > 0 && page+n <= api.MaxPages {
				run = runs.Run{At: page, N: n}
				page += n
			} else if n > 0 {
				continue
			}
			e, marked := Check(s, task, c), Regions(s, c)
			next, r, _ := s.Do(task, c, run)
			if e != r.E {
				t.Fatal(c, e, r)
			}
			free := c.Do == model.Exit || c.Do == model.Kill || c.Do == model.Recv || c.Do == model.TryRecv
			wide := c.Do == model.Share || c.Do == model.Drop || c.Do == model.Send && c.B == 1
			for _, h := range s.T.All() {
				if free || slices.Contains(marked, h) || wide && slices.Contains(forest.Under(s.T, c.R), h) {
					continue
				}
				was, _ := s.T.Get(h)
				now, _ := next.T.Get(h)
				if !reflect.DeepEqual(was, now) || s.O.Of(s.T, h) != next.O.Of(next.T, h) {
					t.Fatal("changed", c, h)
				}
			}
			s = next
		}
	}
}
