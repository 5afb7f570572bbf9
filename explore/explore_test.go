package explore

import (
	"math"
	"reflect"
	"slices"
	"testing"

	"bailiwick/api"
	"bailiwick/code"
	"bailiwick/dump"
	"bailiwick/machine"
	"bailiwick/model"
	"bailiwick/parts"
	"bailiwick/sample"
	"bailiwick/script"
)

func of(programs ...[]code.Instr) script.Script {
	s := script.Script{Pages: 2, Picks: []uint8{99}}
	for _, l := range programs {
		b, _ := code.Encode(l)
		s.Programs = append(s.Programs, b)
	}
	return s
}

func do(d, b uint8, n uint16) code.Instr { return code.Instr{Op: code.CallBase + d, B: b, N: n} }

func set(r uint8, n uint16) code.Instr { return code.Instr{Op: code.Set, A: r, N: n} }

// P33.1, P33.2, and the document's example.
func TestExample(t *testing.T) {
	s := of([]code.Instr{{}})
	w, e := All(s, 9, 9)
	want := Walk{Nodes: []Node{
		{0, nil, []Step{{0, 1}}, false}, {1, []uint8{0}, []Step{{0, 2}}, false}, {2, []uint8{0, 0}, nil, true},
	}}
	if e != api.OK || !reflect.DeepEqual(w, want) {
		t.Error(w, e)
	}
	if q, st, on := w.Kinds(s); q != 1 || st != 0 || on != 2 || w.Stuck(s) != nil {
		t.Error(q, st, on)
	}
	w, _ = All(s, 1, 9)
	if len(w.Nodes) != 2 || w.Cut || w.Nodes[1].Steps != nil || w.Nodes[1].Ends {
		t.Error(w)
	}
	w, _ = All(s, 9, 2)
	if len(w.Nodes) != 2 || !w.Cut || w.Nodes[1].Steps != nil || len(w.Nodes[0].Steps) != 1 {
		t.Error(w)
	}
	w, _ = All(s, 0, 1)
	if len(w.Nodes) != 1 || w.Cut {
		t.Error(w)
	}
	w, _ = All(of([]code.Instr{{Op: code.Jump}}), 60, 1)
	if len(w.Nodes) != 1 || w.Cut || !slices.Equal(w.Nodes[0].Steps, []Step{{0, 0}}) {
		t.Error("it comes back", w)
	}
	s = of([]code.Instr{do(model.Recv, 0, 0)})
	w, _ = All(s, 9, 9)
	if !slices.Equal(w.Stuck(s), []int{1}) || len(w.Nodes) != 2 || !w.Nodes[1].Ends {
		t.Error(w)
	}
}

// P33.1, P33.2: what is refused, and walks that were made by hand.
func TestWrong(t *testing.T) {
	s := of(nil)
	for _, x := range []struct {
		s           script.Script
		deep, nodes int
		e           api.Errno
	}{{script.Script{}, -1, 0, api.ErrForm}, {s, -1, 1, api.ErrArg}, {s, 61, 1, api.ErrArg}, {s, 0, 0, api.ErrArg}, {s, 0, 1001, api.ErrArg}, {s, math.MinInt, math.MaxInt, api.ErrArg}, {s, 60, 1000, api.OK}} {
		if w, e := All(x.s, x.deep, x.nodes); e != x.e || e != api.OK && !reflect.DeepEqual(w, Walk{}) {
			t.Error(x, e)
		}
	}
	w := Walk{Nodes: []Node{{Ends: true, Way: []uint8{255, 0, 8}}}}
	q, st, on := w.Kinds(script.Script{})
	if w.Stuck(script.Script{}) != nil || q+st+on != 0 || !slices.Equal(w.Stuck(s), []int{0}) {
		t.Error("by hand")
	}
}

// can is what can be picked of a machine.
func can(m *machine.Machine) []uint8 {
	var l []uint8
	for b := range uint8(8) {
		if m.Ready(int(b)) {
			l = append(l, b)
		}
	}
	if len(m.Core().Queue) > 0 {
		l = append(l, script.Reap)
	}
	return l
}

// P33.2: walks with nodes of all kinds.
func TestKinds(t *testing.T) {
	s := of([]code.Instr{do(model.Recv, 0, 0), {Op: code.Jump}})
	w, _ := All(s, 9, 9)
	if q, st, on := w.Kinds(s); q != 0 || st != 1 || on != len(w.Nodes)-1 {
		t.Error(q, st, on)
	}
	s = of([]code.Instr{set(6, 1), do(model.Spawn, 0, 0), do(model.Recv, 0, 0)}, []code.Instr{set(6, 0), set(6, 0), do(model.Kill, 0, 0), do(model.Recv, 0, 0)})
	w, _ = All(s, 30, 500)
	q, st, on := w.Kinds(s)
	stuck, ends := 0, 0
	for i, n := range w.Nodes {
		m := at(script.Script{Pages: s.Pages, Programs: s.Programs}, n.Way)
		if n.Ends != (len(can(m)) == 0) {
			t.Error("ends", i)
		}
		if n.Ends {
			ends++
		}
		if len(m.Waits()) > 0 && n.Ends {
			stuck++
		}
	}
	if q != ends-stuck || st != stuck || on != len(w.Nodes)-ends || st == 0 || w.Cut {
		t.Error(q, st, on, stuck, ends)
	}
}

// P33.3, P33.4, P6 and P7 of the whole: two tasks that lend, reset and send.
func TestWalks(t *testing.T) {
	scripts := []script.Script{
		of([]code.Instr{set(6, 1), do(model.Spawn, 0, 0), do(model.New, 0, 0), {Op: code.Add, A: 1, B: 4}, do(model.Alloc, 1, 1), do(model.Send, 1, 0)},
			[]code.Instr{do(model.Recv, 0, 0), do(model.Delete, 4, 0)}),
		of([]code.Instr{set(6, 1), do(model.Spawn, 0, 0), do(model.New, 0, 0), set(1, 1), do(model.Lend, 1, 1), do(model.Recv, 0, 0)},
			[]code.Instr{set(1, 1), set(6, 1), do(model.Alloc, 1, 1), do(model.Reset, 1, 0)}),
	}
	for k, s := range scripts {
		w, e := All(s, 18, 400)
		if e != api.OK || w.Cut {
			t.Fatal(len(w.Nodes), w.Cut)
		}
		dumps := map[string]int{}
		for i, n := range w.Nodes {
			m := at(script.Script{Pages: s.Pages, Programs: s.Programs}, n.Way)
			d, _ := dump.Machine(m)
			if len(n.Way) != n.Depth || dumps[d] > 0 || m.Now() != n.Depth {
				t.Fatal("one dump", i)
			}
			dumps[d] = i + 1
			if n.Ends && len(m.Waits()) == 0 != parts.Quiet(m) {
				t.Fatal("ends", i)
			}
		}
		g := sample.New(k)
		for range 60 {
			m, _ := machine.New(script.Script{Pages: s.Pages, Programs: s.Programs})
			i := 0
			for range 18 {
				l := can(m)
				if len(l) != len(w.Nodes[i].Steps) {
					t.Fatal("steps", i, l)
				}
				if len(l) == 0 {
					break
				}
				k := g.N(len(l))
				x := w.Nodes[i].Steps[k]
				if x.Pick != l[k] {
					t.Fatal("in order", i, l)
				}
				if m.Pick(x.Pick) != api.OK {
					t.Fatal("pick")
				}
				was := w.Nodes[i].Depth
				i = x.To
				d, _ := dump.Machine(m)
				if dumps[d] != i+1 || w.Nodes[i].Depth > was+1 {
					t.Fatal("leads", i)
				}
			}
		}
	}
}
