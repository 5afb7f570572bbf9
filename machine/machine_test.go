package machine_test

import (
	"math"
	"reflect"
	"slices"
	"testing"

	"bailiwick/access"
	"bailiwick/api"
	"bailiwick/call"
	"bailiwick/code"
	. "bailiwick/machine"
	"bailiwick/model"
	"bailiwick/runs"
	"bailiwick/sample"
	"bailiwick/script"
	"bailiwick/task"
)

func program(t *testing.T, l ...code.Instr) string {
	t.Helper()
	b, e := code.Encode(l)
	if e != api.OK {
		t.Fatal(e)
	}
	return b
}

func open(t *testing.T, pages int, programs ...string) *Machine {
	t.Helper()
	m, e := New(script.Script{Pages: pages, Programs: programs})
	if e != api.OK {
		t.Fatal(e)
	}
	return m
}

func picks(t *testing.T, m *Machine, l ...uint8) {
	t.Helper()
	for _, b := range l {
		if e := m.Pick(b); e != api.OK {
			t.Fatal(b, e)
		}
	}
}

func do(x uint8, a, b, c uint8, n uint16) code.Instr {
	return code.Instr{Op: code.CallBase + x, A: a, B: b, C: c, N: n}
}

func set(r uint8, n uint16) code.Instr { return code.Instr{Op: code.Set, A: r, N: n} }

// P19.1, P19.2, and the document's example.
func TestWaits(t *testing.T) {
	m := open(t, 4, program(t, do(model.Recv, 0, 0, 0, 0), code.Instr{}))
	if m.Waits() != nil || !m.Ready(0) || m.Ready(1) {
		t.Error("at first")
	}
	picks(t, m, 0, 0)
	if !slices.Equal(m.Waits(), []int{0}) || m.Ready(0) || m.Now() != 2 || m.Events() != nil {
		t.Error(m.Waits())
	}
	if c, ok := m.Under(0); !ok || c.Checked || c.C.Do != model.Recv {
		t.Error(c)
	}
	picks(t, m, script.Slay)
	if _, ok := m.Under(0); ok || m.Waits() != nil || !slices.Equal(m.Events(), []Event{{C: model.Call{Do: model.Exit}, From: 3, To: 3}}) {
		t.Error(m.Events())
	}
	if m.Task(0).Next != 0 {
		t.Error("who is slain takes in nothing")
	}
}

// P19.1: calls, their events, and their runs.
func TestEvents(t *testing.T) {
	m := open(t, 4, program(t, set(6, 4), do(model.New, 1, 0, 0, 0), code.Instr{Op: code.Add, A: 1, B: 4}, do(model.Alloc, 2, 1, 0, 4)))
	picks(t, m, 0, 0, 0, 0)
	if m.Task(0).Regs != [8]uint64{0, 1, 0, 0, 1, 0, 4, 0} || m.Task(0).Next != 3 {
		t.Error(m.Task(0))
	}
	picks(t, m, 0, 0, 0, 0)
	if c, ok := m.Under(0); !ok || c.Cleared != 1 || c.Run != (runs.Run{At: 0, N: 1}) || len(m.Events()) != 1 {
		t.Error(c)
	}
	picks(t, m, 0, 0, 0)
	want := []Event{
		{C: model.Call{Do: model.New, A: 4}, R: model.Result{W: 1}, From: 2, To: 3},
		{C: model.Call{Do: model.Alloc, R: 1, S: 0, A: 4, B: 4}, Run: runs.Run{At: 0, N: 1}, From: 5, To: 9},
		{C: model.Call{Do: model.Exit}, From: 10, To: 11},
	}
	if !slices.Equal(m.Events(), want) || m.Core().S.Alive[0] || !slices.Equal(m.Core().Queue, []int{0}) {
		t.Error(m.Events())
	}
	if m.Pick(0) != api.ErrState || m.Pick(script.Slay) != api.ErrState || m.Now() != 11 {
		t.Error("dead")
	}
	picks(t, m, script.Reap)
	if m.Pick(script.Reap) != api.ErrEmpty || m.Now() != 12 {
		t.Error("reap")
	}
}

// P19.1: whoever dies by another one's step has his call cut off; what was cleared goes to the queue.
func TestKilled(t *testing.T) {
	kill := program(t, set(6, 1), do(model.Spawn, 0, 0, 0, 0), do(model.Kill, 0, 0, 0, 0))
	other := program(t, set(6, 8), do(model.New, 1, 0, 0, 0), set(6, 64), do(model.Alloc, 2, 4, 0, 4))
	m := open(t, 4, kill, other)
	picks(t, m, 0, 0, 0, 1, 1, 1, 1, 1, 1, 1, 1)
	if c, ok := m.Under(1); !ok || c.Run.N != 2 || c.Cleared != 1 {
		t.Error(c, ok)
	}
	picks(t, m, 0, 0)
	if _, ok := m.Under(1); ok || !slices.Equal(m.Core().Queue, []int{0, 1}) || m.Core().M.Held(1) != nil || m.Core().S.T.All() != nil {
		t.Error(m.Core().Queue)
	}
}

// P19.1, P19.2: what is refused, nil, and tasks that there are not.
func TestWrong(t *testing.T) {
	if m, e := New(script.Script{}); m != nil || e != api.ErrForm {
		t.Error(e)
	}
	if m, l, e := Run(script.Script{Pages: 1}); m != nil || l != nil || e != api.ErrForm {
		t.Error(e)
	}
	for _, n := range []*Machine{nil, {}} {
		if n.Pick(9) != api.ErrNil || n.Now() != 0 || !reflect.DeepEqual(n.Core(), call.Core{}) || n.Waits() != nil || n.Events() != nil || n.Ready(0) || !reflect.DeepEqual(n.Task(0), task.Task{}) {
			t.Error("none")
		}
		if _, ok := n.Under(0); ok {
			t.Error("none")
		}
	}
	m := open(t, 4, "")
	for b := range 256 {
		e := m.Pick(uint8(b))
		switch {
		case b == 0 || b == 16:
			continue
		case b < 8 || b > 16 && b < 24:
			if e != api.ErrState {
				t.Error(b, e)
			}
		case b == 8:
			if e != api.ErrEmpty {
				t.Error(b, e)
			}
		default:
			if e != api.ErrArg {
				t.Error(b, e)
			}
		}
	}
	for _, k := range []int{-1, 8, math.MaxInt, math.MinInt} {
		if _, ok := m.Under(k); ok || m.Ready(k) || !reflect.DeepEqual(m.Task(k), task.Task{}) {
			t.Error(k)
		}
	}
}

// P19.2: what is done to what was handed out is not seen, but for the pool.
func TestLooks(t *testing.T) {
	m := open(t, 4, program(t, set(6, 4), do(model.New, 1, 0, 0, 0), do(model.Delete, 1, 4, 0, 0)))
	picks(t, m, 0, 0, 0, 0)
	x := m.Core()
	x.Queue = append(x.Queue, 3)
	x.S = model.State{}
	m.Task(0).Code[0].Op = code.Jump
	c, _ := m.Under(0)
	c.Regions[0] = 77
	d, _ := m.Under(0)
	if len(m.Core().Queue) != 0 || !m.Core().S.Alive[0] || m.Task(0).Code[0].Op != code.Set || d.Regions[0] != 1 {
		t.Error("seen")
	}
	picks(t, m, 0, 0)
	m.Events()[0].Task = 5
	if m.Events()[0].Task != 0 {
		t.Error("events")
	}
	x.P.Claim(1)
	if m.Core().P.Free().Count() != 3 {
		t.Error("the pool")
	}
}

// P19.3, P2, P4: whatever is picked.
func TestWhatever(t *testing.T) {
	ok := map[uint8]int{}
	for seed := range 60 {
		g := sample.New(seed)
		s := g.Script(4, 600)
		m, errs, _ := Run(s)
		n, again, _ := Run(s)
		if !reflect.DeepEqual(m, n) || !slices.Equal(errs, again) || len(errs) != len(s.Picks) {
			t.Fatal("the same script")
		}
		o, _ := New(s)
		for i, b := range s.Picks {
			was := o.Core()
			now := o.Now()
			e := o.Pick(b)
			if e != errs[i] || e != api.OK && (!reflect.DeepEqual(was, o.Core()) || now != o.Now()) {
				t.Fatal("pick", b, e)
			}
			x := o.Core()
			for k := range api.MaxTasks {
				c, under := o.Under(k)
				if !x.S.Alive[k] && (under || x.M.Held(k) != nil || c.Run.N > 0) {
					t.Fatal("dead", k)
				}
			}
			if i%10 == 0 {
				oneStores(t, x.S)
			}
		}
		for _, e := range m.Events() {
			if e.R.E == api.OK {
				ok[e.C.Do]++
			}
		}
	}
	for d := model.New; d <= model.Spawn; d++ {
		if ok[d] == 0 {
			t.Error("never done", d)
		}
	}
}

func oneStores(t *testing.T, s model.State) {
	for _, h := range s.T.All() {
		n := 0
		for k := range api.MaxTasks {
			if s.May(k, h, access.Store) == api.OK {
				n++
			}
		}
		if n > 1 {
			t.Fatal("two may store", h)
		}
	}
}
