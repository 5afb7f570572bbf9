package trace_test

import (
	"reflect"
	"slices"
	"testing"

	"bailiwick/api"
	"bailiwick/machine"
	"bailiwick/model"
	"bailiwick/runs"
	"bailiwick/sample"
	. "bailiwick/trace"
)

func at(from, to int) machine.Event { return machine.Event{From: from, To: to} }

// P20.3, and the document's example.
func TestAhead(t *testing.T) {
	l := Ahead([]machine.Event{at(1, 3), at(2, 5), at(4, 6)})
	if !reflect.DeepEqual(l, [][]bool{{false, false, true}, {false, false, false}, {false, false, false}}) {
		t.Error(l)
	}
	if Ahead(nil) != nil {
		t.Error("none")
	}
	l = Ahead([]machine.Event{at(5, 1), at(3, 3), at(3, 3)})
	if !reflect.DeepEqual(l, [][]bool{{false, true, true}, {true, false, false}, {true, false, false}}) {
		t.Error(l)
	}
}

// P20.1
func TestOrdered(t *testing.T) {
	for _, x := range []struct {
		l  []machine.Event
		is bool
	}{{nil, true}, {[]machine.Event{at(3, 3)}, true}, {[]machine.Event{at(4, 3)}, false}, {[]machine.Event{at(1, 3), at(1, 4)}, true}, {[]machine.Event{at(1, 3), at(1, 3)}, false}, {[]machine.Event{at(1, 3), at(1, 2)}, false}} {
		if Ordered(x.l) != x.is {
			t.Error(x)
		}
	}
	l := []machine.Event{{Task: 1, To: 1}, {Task: 2, To: 2}, {Task: 1, To: 3}}
	if !slices.Equal(Of(l, 1), []machine.Event{l[0], l[2]}) || Of(l, 0) != nil || Of(l, -1) != nil || Of(nil, 1) != nil {
		t.Error(Of(l, 1))
	}
}

// P20.2
func TestReplay(t *testing.T) {
	root := machine.Event{C: model.Call{Do: model.New, A: 4}, R: model.Result{W: 1}}
	alloc := machine.Event{C: model.Call{Do: model.Alloc, R: 1, A: 8, B: 8}, Run: runs.Run{At: 3, N: 1}}
	load := machine.Event{C: model.Call{Do: model.Load, R: 1, A: 0, B: 8}, R: model.Result{V: 99}}
	s, ok := Replay([]machine.Event{root, alloc, load})
	if r, _ := s.T.Get(1); !ok || r.E.Len != 8 {
		t.Error(ok)
	}
	full := alloc
	full.Run, full.R.E = runs.Run{}, api.ErrMem
	if s, ok := Replay([]machine.Event{root, full}); !ok || len(s.T.All()) != 1 {
		t.Error("out of memory is left out")
	}
	none := full
	none.C.A = 0
	for _, wrong := range []func() machine.Event{
		func() machine.Event { return none },
		func() machine.Event { e := alloc; e.R.V = 8; return e },
		func() machine.Event { e := alloc; e.Run = runs.Run{}; return e },
		func() machine.Event { e := alloc; e.Run.N = 2; return e },
		func() machine.Event { e := alloc; e.R.E = api.ErrArg; return e },
		func() machine.Event { e := load; return e },
		func() machine.Event { e := root; e.Run.N = 1; e.R.W = 2; return e },
		func() machine.Event { e := root; e.Run.N = -1; e.R.W = 2; return e },
		func() machine.Event { e := root; return e },
		func() machine.Event { e := root; e.R.W = 2; e.Task = 1; return e },
	} {
		s, ok := Replay([]machine.Event{root, wrong(), alloc})
		want, _ := Replay([]machine.Event{root})
		if ok || !reflect.DeepEqual(s, want) {
			t.Error("agrees", wrong())
		}
	}
	if s, ok := Replay(nil); !ok || !reflect.DeepEqual(s, model.Begin()) {
		t.Error("none")
	}
}

// P20.4
func TestMachines(t *testing.T) {
	for seed := range 60 {
		m, _, _ := machine.Run(sample.New(seed).Script(4, 600))
		l := m.Events()
		s, ok := Replay(l)
		if !Ordered(l) || !ok || !reflect.DeepEqual(s, m.Core().S) {
			t.Fatal("seed", seed, ok)
		}
		for k := range api.MaxTasks {
			of := Of(l, k)
			ahead := Ahead(of)
			for i := range of {
				for j := range of {
					if ahead[i][j] != (i < j) {
						t.Fatal("one task's events", i, j, of[i], of[j])
					}
				}
			}
		}
	}
}
