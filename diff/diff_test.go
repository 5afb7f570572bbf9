package diff_test

import (
	"slices"
	"testing"

	"bailiwick/api"
	"bailiwick/clock"
	. "bailiwick/diff"
	"bailiwick/dump"
	"bailiwick/machine"
	"bailiwick/model"
	"bailiwick/replay"
	"bailiwick/sample"
)

// P31.1
func TestDiff(t *testing.T) {
	for _, x := range []struct {
		a, b string
		l    []Change
	}{
		{"", "", nil}, {"a b 1\n", "a b 1", nil}, {"a b 1\n", "a b 2\n", []Change{{"a b", "a b 1", "a b 2"}}}, {"a b 1\n", "", []Change{{"a b", "a b 1", ""}}}, {"", "a b 1\n\n", []Change{{"a b", "", "a b 1"}}},
		{"x y 1\nz\n\nx y 2\n", "q\nz\nx y 3\nq\n", []Change{{"x y", "x y 2", "x y 3"}, {"q", "", "q"}}},
		{"a 1 2\nb 1 2\na 1 3", "b 1 3\na 1 4\nc\nb 1 2", []Change{{"a 1", "a 1 3", "a 1 4"}, {"c", "", "c"}}},
		{"b 1\na 1\n", "d\nc\nd\n", []Change{{"b 1", "b 1", ""}, {"a 1", "a 1", ""}, {"d", "", "d"}, {"c", "", "c"}}},
	} {
		if l := Diff(x.a, x.b); !slices.Equal(l, x.l) {
			t.Errorf("%q %q %v", x.a, x.b, l)
		}
	}
	for _, x := range []struct {
		x, y []Change
		is   bool
	}{{nil, nil, true}, {[]Change{{Key: "a"}}, nil, true}, {[]Change{{Key: "a"}, {Key: "b"}}, []Change{{Key: "c"}, {Key: "b", Was: "x"}}, false}, {[]Change{{Key: "a", Was: "c"}}, []Change{{Key: "c"}}, true}} {
		if Apart(x.x, x.y) != x.is || Apart(x.y, x.x) != x.is {
			t.Error(x)
		}
	}
}

// P31.2, and the document's example.
func TestEffects(t *testing.T) {
	const region = "region 1 up 0 quota 4 used 0 runs - cells 0,0,0,0,0,0,0,0 "
	root := machine.Event{C: model.Call{Do: model.New, A: 4}, R: model.Result{W: 1}}
	wrong := machine.Event{C: model.Call{Do: model.New, A: 99}, R: model.Result{E: api.ErrArg}}
	full := machine.Event{C: model.Call{Do: model.Alloc, R: 1, A: 4, B: 4}, R: model.Result{E: api.ErrMem}}
	l, ok := Effects([]machine.Event{root, wrong, full})
	if !ok || len(l) != 3 || len(l[0]) != 2 || l[1] != nil || l[2] != nil {
		t.Fatal(l, ok)
	}
	if c := l[0][0]; c.Key != "next table" || c.Was == "" || c.Now == "" {
		t.Error(c)
	}
	if c := l[0][1]; c != (Change{"region 1", "", region + "own 1 0 0"}) {
		t.Error(c)
	}
	frozen := machine.Event{C: model.Call{Do: model.Freeze, R: 1}}
	if l, ok := Effects([]machine.Event{root, frozen}); !ok || !slices.Equal(l[1], []Change{{"region 1", region + "own 1 0 0", region + "own 3 0 1"}}) {
		t.Error(l)
	}
	root.R.W = 2
	if l, ok := Effects([]machine.Event{root}); ok || l != nil {
		t.Error("they do not agree")
	}
	if l, ok := Effects(nil); !ok || len(l) != 0 {
		t.Error("none")
	}
}

// P31.3, P31.4, P31.5, P7 of the whole
func TestMachines(t *testing.T) {
	apart := 0
	for seed := range 15 {
		m, _, _ := machine.Run(sample.New(seed).Script(4, 400))
		l := m.Events()
		effects, ok := Effects(l)
		if !ok {
			t.Fatal("agree")
		}
		s := model.Begin()
		first := dump.State(s)
		at := map[string]string{}
		for _, x := range dump.Lines(first) {
			at[dump.Key(x)] = x
		}
		var ahead clock.Touch
		for i, e := range l {
			touch := clock.Of(s, e)
			if i > 0 && e.Task != l[i-1].Task && !touch.Meets(ahead) {
				apart++
				if !Apart(effects[i-1], effects[i]) {
					t.Fatal("apart", l[i-1], e)
				}
			}
			ahead = touch
			was := dump.State(s)
			s, _ = replay.Step(s, e)
			back := Diff(dump.State(s), was)
			if len(back) != len(effects[i]) || Diff(was, was) != nil || e.R.E != api.OK && effects[i] != nil {
				t.Fatal("back", e)
			}
			for _, c := range effects[i] {
				if !slices.Contains(back, Change{c.Key, c.Now, c.Was}) || at[c.Key] != c.Was {
					t.Fatal("about", c)
				}
				at[c.Key] = c.Now
			}
		}
		for _, x := range dump.Lines(dump.State(m.Core().S)) {
			if at[dump.Key(x)] != x {
				t.Fatal("the last one", x)
			}
			delete(at, dump.Key(x))
		}
		for _, x := range at {
			if x != "" {
				t.Fatal("left", x)
			}
		}
	}
	if apart < 50 {
		t.Error("too few", apart)
	}
}
