package whole

import (
	"reflect"
	"slices"
	"testing"

	"bailiwick/access"
	"bailiwick/api"
	"bailiwick/audit"
	"bailiwick/call"
	"bailiwick/code"
	"bailiwick/diff"
	"bailiwick/dump"
	"bailiwick/explore"
	"bailiwick/handle"
	"bailiwick/linear"
	"bailiwick/machine"
	"bailiwick/model"
	"bailiwick/own"
	"bailiwick/parts"
	"bailiwick/replay"
	"bailiwick/resume"
	"bailiwick/runs"
	"bailiwick/sample"
	"bailiwick/sched"
	"bailiwick/script"
	"bailiwick/session"
	"bailiwick/trace"
)

// picked does a script's picks, and tells each one that was done.
func picked(t *testing.T, s script.Script, look func(m *machine.Machine, before call.Core)) *machine.Machine {
	t.Helper()
	m, e := machine.New(s)
	if e != api.OK {
		t.Fatal(e)
	}
	for _, b := range s.Picks {
		before := m.Core()
		if m.Pick(b) == api.OK {
			look(m, before)
		}
	}
	return m
}

// P1: one moment.
func TestOneMoment(t *testing.T) {
	for seed := range 40 {
		m, _, _ := machine.Run(sample.New(seed).Script(4, 500))
		l := m.Events()
		s, agree := trace.Replay(l)
		if !trace.Ordered(l) || !agree || !reflect.DeepEqual(s, m.Core().S) {
			t.Fatal("as the model does", seed)
		}
		loads(t, l)
		if len(l) <= linear.MaxEvents {
			if o, k, _ := linear.Search(l, len(l)); k != linear.Found || !slices.IsSorted(o) {
				t.Fatal("order", seed)
			}
		}
	}
	for _, b := range []string{"\x00", "\x07\x00\x00\x00\x00\x00", "\x05\x00\x00\x00\x01\x00"} {
		if m, e := machine.New(script.Script{Pages: 1, Programs: []string{b}}); m != nil || e != api.ErrForm {
			t.Error("programs that are none", e)
		}
	}
}

// loads asks whether each Load answers the bytes that were stored last, or 0.
func loads(t *testing.T, l []machine.Event) {
	t.Helper()
	bytes := map[handle.Handle]map[int]byte{}
	s := model.Begin()
	for _, e := range l {
		s, _ = replay.Step(s, e)
		if e.R.E != api.OK || !s.T.Good(e.C.R) {
			continue
		}
		if bytes[e.C.R] == nil || e.C.Do == model.Reset {
			bytes[e.C.R] = map[int]byte{}
		}
		for i := range int(e.C.B) {
			at := int(e.C.A) + i
			switch b := bytes[e.C.R]; {
			case e.C.Do == model.Store:
				b[at] = byte(e.C.V >> (8 * i))
			case e.C.Do == model.Load && byte(e.R.V>>(8*i)) != b[at]:
				t.Fatal("other bytes", e)
			}
		}
	}
}

// P2: access.
func TestAccess(t *testing.T) {
	for seed := range 25 {
		n := 0
		picked(t, sample.New(seed).Script(4, 500), func(m *machine.Machine, _ call.Core) {
			if n++; n%5 > 0 {
				return
			}
			s := m.Core().S
			for _, h := range s.T.All() {
				stores := 0
				for k := range api.MaxTasks {
					if s.May(k, h, access.Store) == api.OK {
						stores++
					}
				}
				kind := s.O.Of(s.T, h).Kind
				none := kind == own.Frozen || kind == own.Flight
				for _, k := range s.K.On(h) {
					x, _ := s.K.Get(k)
					none = none || x.Above == 0 && !x.Mutable
				}
				if stores > 1 || none && stores > 0 {
					t.Fatal("store", seed, h, stores)
				}
			}
		})
	}
}

// P3: stale.
func TestStale(t *testing.T) {
	for seed := range 25 {
		g := sample.New(seed)
		gone, tokens := map[handle.Handle]bool{}, map[handle.Handle]bool{}
		picked(t, g.Script(4, 500), func(m *machine.Machine, before call.Core) {
			s := m.Core().S
			for _, h := range before.S.T.All() {
				gone[h] = gone[h] || !s.T.Good(h)
			}
			for k := range api.MaxTasks {
				for _, h := range before.S.K.Of(k) {
					_, e := s.K.Get(h)
					tokens[h] = tokens[h] || e != api.OK
				}
			}
			if g.N(20) > 0 {
				return
			}
			for h, is := range gone {
				for k := range api.MaxTasks {
					if is && s.Alive[k] {
						stale(t, s, k, h)
					}
				}
			}
			for h, is := range tokens {
				if _, r, _ := s.Do(0, model.Call{Do: model.Return, S: h}, runs.Run{}); is && s.Alive[0] && r.E != api.ErrStale {
					t.Fatal("token", h, r)
				}
			}
		})
	}
}

func stale(t *testing.T, s model.State, k int, h handle.Handle) {
	t.Helper()
	for _, d := range []uint8{model.New, model.Alloc, model.Load, model.Store, model.Reset, model.Delete, model.Cut, model.Graft, model.Freeze, model.Share, model.Drop, model.Lend, model.Send, model.Ref, model.Deref} {
		c := model.Call{Do: d, R: h, S: h, A: uint32(k), B: 1}
		next, r, _ := s.Do(k, c, runs.Run{})
		if r.E != api.ErrStale && r.E != api.ErrAccess && r.E != api.ErrArg || !reflect.DeepEqual(next, s) {
			t.Fatal("stale", c, r)
		}
	}
}

// P4: pages.
func TestPages(t *testing.T) {
	full := 0
	for seed := range 40 {
		s := sample.New(seed).Script(4, 500)
		s.Pages = 2 + seed%6
		n := 0
		m := picked(t, s, func(m *machine.Machine, before call.Core) {
			p, e := parts.Count(m)
			if e != api.OK || p.Free+p.Regions+p.Calls+p.Queued != s.Pages {
				t.Fatal("parts", p, e)
			}
			l := m.Events()
			for _, x := range l[n:] {
				if x.R.E == api.ErrMem {
					full++
					memory(t, before, x)
				}
			}
			n = len(l)
		})
		for k := range uint8(8) {
			m.Pick(script.Slay + k)
		}
		for m.Pick(script.Reap) == api.OK {
		}
		if !parts.Whole(m) || !parts.Quiet(m) {
			t.Fatal("one run", seed)
		}
	}
	if full < 20 {
		t.Error("too few", full)
	}
}

// memory asks whether a call that answered ErrMem did so where a quota, or the arena at that moment, had not as many.
func memory(t *testing.T, x call.Core, e machine.Event) {
	t.Helper()
	n := x.S.Needs(e.Task, e.C)
	_, r, _ := x.S.Do(e.Task, e.C, e.Run)
	if n == 0 && r.E != api.ErrMem {
		t.Fatal("a quota", e)
	}
	// The pool is the machine's own, and what is free did not change by that step.
	if _, ok := x.P.Free().Find(n); n > 0 && ok {
		t.Fatal("the arena", e, n)
	}
}

// P5: fair.
func TestFair(t *testing.T) {
	stuck := 0
	for seed := range 40 {
		s := sample.New(seed).Programs(4)
		for i, b := range s.Programs {
			if l, _ := code.Decode(b); seed%2 == 0 {
				l[len(l)-1] = do(model.Recv, 3, 0, 0, 0)
				s.Programs[i], _ = code.Encode(l)
			}
		}
		m, o, e := session.Play(s, sched.Policy{Every: 3}, 1500)
		if e != api.OK {
			t.Fatal(e)
		}
		n, _ := machine.New(script.Script{Pages: s.Pages, Programs: s.Programs})
		var age [api.MaxTasks]int
		for _, b := range o.Script.Picks {
			n.Pick(b)
			for k := range api.MaxTasks {
				c, under := n.Under(k)
				switch {
				case !under || !c.Checked:
					age[k] = 0
				case int(b) == k:
					age[k]++
				}
				if age[k] > 8*(api.MaxRegions+6) {
					t.Fatal("a call does not end", seed, c)
				}
			}
		}
		if o.Kind == session.Stuck {
			stuck++
			if len(m.Waits()) == 0 || !slices.Equal(o.Waits, m.Waits()) {
				t.Fatal("named", seed)
			}
		}
	}
	if stuck < 5 {
		t.Error("too few", stuck)
	}
}

func do(d, a, b, c uint8, n uint16) code.Instr {
	return code.Instr{Op: code.CallBase + d, A: a, B: b, C: c, N: n}
}

func set(r uint8, n uint16) code.Instr { return code.Instr{Op: code.Set, A: r, N: n} }

func programs(t *testing.T, pages int, l ...[]code.Instr) script.Script {
	t.Helper()
	s := script.Script{Pages: pages}
	for _, p := range l {
		b, e := code.Encode(p)
		if e != api.OK {
			t.Fatal(e)
		}
		s.Programs = append(s.Programs, b)
	}
	return s
}

// P5: marks are given in turn, and who waits for a message goes on when there is one, or its box is closed.
func TestTurns(t *testing.T) {
	first := []code.Instr{set(6, 8), do(model.New, 3, 0, 0, 0), set(1, 1), do(model.Alloc, 3, 1, 0, 8)}
	for k := range uint16(3) {
		first = append(first, set(6, k+1), do(model.Spawn, 3, 0, 0, 0), do(model.Lend, 3, 1, 0, 0))
	}
	first = append(first, do(model.Recv, 3, 0, 0, 0))
	loader := []code.Instr{set(1, 1), do(model.Load, 3, 1, 0, 8), {Op: code.Jump, N: 1}}
	_, o, _ := session.Play(programs(t, 4, first, loader, loader, loader), sched.Policy{}, 800)
	m, _, _ := machine.Run(o.Script)
	var n [api.MaxTasks]int
	for _, e := range m.Events() {
		if e.C.Do == model.Load && e.R.E == api.OK {
			n[e.Task]++
		}
	}
	if n[1] < 20 || n[1]-n[3] > 6 || n[3]-n[1] > 6 || n[2]-n[3] > 6 || n[3]-n[2] > 6 {
		t.Error("in turn", n)
	}
	sender := []code.Instr{set(6, 1), do(model.Spawn, 3, 0, 0, 0), do(model.Spawn, 3, 0, 0, 0), do(model.Spawn, 3, 0, 0, 0), do(model.Send, 3, 0, 0, 0), do(model.Recv, 3, 0, 0, 0)}
	receiver := []code.Instr{do(model.Recv, 3, 0, 0, 0), do(model.Close, 3, 0, 0, 0), do(model.Recv, 3, 0, 0, 0)}
	m, o, _ = session.Play(programs(t, 4, sender, receiver), sched.Policy{}, 200)
	got := []api.Errno{}
	for _, e := range m.Events() {
		if e.Task == 1 {
			got = append(got, e.R.E)
		}
	}
	if !slices.Equal(got, []api.Errno{api.OK, api.OK, api.ErrClosed, api.OK}) || o.Kind != session.Stuck || !slices.Equal(o.Waits, []int{0}) {
		t.Error(got, o.Waits)
	}
}

// P6: stops.
func TestStops(t *testing.T) {
	for seed := range 12 {
		g := sample.New(seed)
		s := g.Script(4, 300)
		h, _ := resume.Begin(s)
		var done []uint8
		for _, b := range s.Picks {
			if h.Do(b) == api.OK {
				done = append(done, b)
			}
			if g.N(25) == 0 {
				h.Write()
			}
			if g.N(25) == 0 {
				lost := h.Waits()
				h, _ = resume.Open(h.Stop())
				for _, again := range done[len(done)-lost:] {
					h.Do(again)
				}
			}
			if l, e := audit.Machine(h.Machine()); l != nil || e != api.OK {
				t.Fatal("a rule is broken", seed, l)
			}
		}
		m, _, _ := machine.Run(script.Script{Pages: s.Pages, Programs: s.Programs, Picks: done})
		a, _ := dump.Machine(m)
		b, _ := dump.Machine(h.Machine())
		if a != b {
			t.Fatal("the same dump", seed)
		}
	}
}

// P7: ways.
func TestWays(t *testing.T) {
	for _, s := range []script.Script{
		programs(t, 2, []code.Instr{set(6, 1), do(model.Spawn, 3, 0, 0, 0), do(model.New, 3, 0, 0, 0), set(1, 1), do(model.Alloc, 3, 1, 0, 1), do(model.Send, 3, 1, 0, 0)}, []code.Instr{do(model.Recv, 3, 0, 0, 0), do(model.Delete, 3, 4, 0, 0)}),
		programs(t, 2, []code.Instr{set(6, 1), do(model.Spawn, 3, 0, 0, 0), do(model.New, 3, 0, 0, 0), do(model.Kill, 3, 0, 0, 0)}, []code.Instr{set(6, 2), do(model.New, 3, 0, 0, 0), do(model.Alloc, 3, 4, 0, 1)}),
	} {
		w, e := explore.All(s, 16, 400)
		if e != api.OK || w.Cut || len(w.Nodes) < 20 {
			t.Fatal(len(w.Nodes), w.Cut)
		}
		for _, n := range w.Nodes {
			m, _, _ := machine.Run(script.Script{Pages: s.Pages, Programs: s.Programs, Picks: n.Way})
			l := m.Events()
			if _, e := parts.Count(m); e != api.OK {
				t.Fatal("parts", e)
			}
			if f, _ := audit.Machine(m); f != nil {
				t.Fatal("rules", f)
			}
			if o, k, _ := linear.Search(l, len(l)); k != linear.Found || !linear.May(l, o) {
				t.Fatal("order", l)
			}
			leads(t, l, m)
		}
	}
}

// leads asks whether what events did leads to a machine's dump.
func leads(t *testing.T, l []machine.Event, m *machine.Machine) {
	t.Helper()
	effects, ok := diff.Effects(l)
	if !ok {
		t.Fatal("agree")
	}
	at := map[string]string{}
	for _, x := range dump.Lines(dump.State(model.Begin())) {
		at[dump.Key(x)] = x
	}
	for _, did := range effects {
		for _, c := range did {
			at[c.Key] = c.Now
		}
	}
	d, _ := dump.Machine(m)
	lines := dump.Lines(d)
	for key, x := range at {
		if x != "" && !slices.Contains(lines, x) {
			t.Fatal("dump", key, x)
		}
	}
}
