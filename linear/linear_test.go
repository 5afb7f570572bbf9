package linear_test

import (
	"math"
	"math/rand"
	"slices"
	"testing"

	"bailiwick/api"
	. "bailiwick/linear"
	"bailiwick/machine"
	"bailiwick/model"
	"bailiwick/sample"
)

func root(task, from, to int, w uint32) machine.Event {
	e := machine.Event{Task: task, C: model.Call{Do: model.New, A: 4}, From: from, To: to}
	e.R.W = 1
	for range w - 1 {
		e.R.W++
	}
	return e
}

func spawn() machine.Event { return machine.Event{C: model.Call{Do: model.Spawn, A: 1}} }

// P32.1, and the document's example.
func TestExample(t *testing.T) {
	l := []machine.Event{root(0, 1, 9, 2), root(1, 1, 9, 1), spawn()}
	for _, x := range []struct {
		tries int
		order []int
		kind  uint8
	}{{0, nil, Open}, {1, nil, Open}, {2, nil, Open}, {3, nil, Open}, {4, []int{2, 1, 0}, Found}, {9, []int{2, 1, 0}, Found}, {MaxTries, []int{2, 1, 0}, Found}} {
		if o, k, e := Search(l, x.tries); !slices.Equal(o, x.order) || k != x.kind || e != api.OK {
			t.Error(x, o, k, e)
		}
	}
	two := []machine.Event{root(0, 1, 9, 2), root(0, 1, 9, 1)}
	if o, k, _ := Search(two, 3); !slices.Equal(o, []int{1, 0}) || k != Found {
		t.Error(o, k)
	}
}

// P32.1: none, open, and what is refused.
func TestSearch(t *testing.T) {
	never := []machine.Event{root(0, 1, 9, 2), root(0, 1, 9, 3)}
	for _, x := range []struct {
		l     []machine.Event
		tries int
		order []int
		kind  uint8
		e     api.Errno
	}{
		{never, 2, nil, None, api.OK}, {never, 1, nil, Open, api.OK}, {nil, 0, nil, Found, api.OK},
		{[]machine.Event{root(0, 1, 2, 2), root(0, 3, 9, 1)}, 9, nil, None, api.OK}, {[]machine.Event{root(0, 3, 9, 2), root(0, 1, 2, 1)}, 2, []int{1, 0}, Found, api.OK},
		{[]machine.Event{root(0, 9, 1, 1), root(0, 9, 1, 2)}, 9, nil, None, api.OK}, {[]machine.Event{root(0, 9, 1, 1)}, 1, []int{0}, Found, api.OK},
		{never, -1, nil, 0, api.ErrArg}, {never, MaxTries + 1, nil, 0, api.ErrArg}, {make([]machine.Event, 201), -1, nil, 0, api.ErrArg}, {make([]machine.Event, 201), 1, nil, 0, api.ErrLimit}, {make([]machine.Event, 200), 200, nil, None, api.OK}, {make([]machine.Event, 200), 199, nil, Open, api.OK},
	} {
		if o, k, e := Search(x.l, x.tries); !slices.Equal(o, x.order) || k != x.kind || e != x.e {
			t.Error(len(x.l), x.tries, o, k, e)
		}
	}
}

// P32.2, P32.3
func TestMay(t *testing.T) {
	l := []machine.Event{root(0, 1, 5, 1), root(0, 5, 9, 2), root(0, 10, 11, 3)}
	for _, x := range []struct {
		order []int
		may   bool
	}{{[]int{0, 1, 2}, true}, {[]int{1, 0, 2}, false}, {nil, false}, {[]int{0, 1}, false}, {[]int{0, 1, 1}, false}, {[]int{0, 1, 3}, false}, {[]int{-1, 0, 1}, false}, {[]int{0, 1, 2, 2}, false}, {[]int{0, 1, 2, 3}, false}, {[]int{math.MaxInt, 1, math.MinInt}, false}} {
		if May(l, x.order) != x.may {
			t.Error(x)
		}
	}
	if !May(nil, nil) || May(nil, []int{0}) {
		t.Error("none")
	}
	p := []machine.Event{root(0, 1, 5, 2), root(0, 5, 9, 1), root(0, 10, 11, 3)}
	if !May(p, []int{1, 0, 2}) {
		t.Error("at the same time")
	}
	p[1].From = 6
	if May(p, []int{1, 0, 2}) {
		t.Error("it had ended")
	}
	p = []machine.Event{root(0, 10, 11, 1), root(0, 5, 9, 2), root(0, 10, 10, 3)}
	if May(p, []int{0, 1, 2}) {
		t.Error("ahead")
	}
	w := Widen(l, 2)
	if w[0].From != -1 || w[0].To != 7 || l[0].From != 1 || !slices.Equal(Widen(l, -3), l) || Widen(l, MaxTries+7)[0].To != MaxTries+5 || Widen(nil, 3) != nil {
		t.Error(w)
	}
}

// P32.4, P32.5
func TestMachines(t *testing.T) {
	g := rand.New(rand.NewSource(32))
	for seed := range 15 {
		m, _, _ := machine.Run(sample.New(seed).Script(3, 150))
		l := m.Events()
		if o, k, _ := Search(l, len(l)); k != Found || !slices.IsSorted(o) || len(o) != len(l) {
			t.Fatal("found at once", seed, k)
		}
		w := Widen(l, g.Intn(6))
		g.Shuffle(len(w), func(i, j int) { w[i], w[j] = w[j], w[i] })
		o, k, _ := Search(w, 20000)
		if k == None || k == Found && !May(w, o) {
			t.Fatal("there is one", seed, k)
		}
		for _, n := range []int{0, 5, 50, 500} {
			p, kind, _ := Search(w, n)
			if kind != Open && (kind != k || !slices.Equal(p, o)) {
				t.Fatal("more tries", seed, n)
			}
		}
	}
}
