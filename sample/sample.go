// Package sample makes calls, programs and scripts from seeds: what the tests of many layers run. The same seed always makes the same.
package sample

import (
	"bailiwick/code"
	"bailiwick/handle"
	"bailiwick/model"
	"bailiwick/script"
)

// Gen makes numbers, one behind the other.
type Gen struct{ seed uint64 }

// New is one of a seed.
func New(seed int) *Gen { return &Gen{uint64(seed)*2862933555777941757 + 3037000493} }

// N is a number from 0 to n less 1.
func (g *Gen) N(n int) int {
	g.seed = g.seed*6364136223846793005 + 1442695040888963407
	return int((g.seed >> 33) % uint64(n))
}

// Handle is mostly one of a region that is there.
func (g *Gen) Handle(s model.State) handle.Handle {
	l := s.T.All()
	switch {
	case len(l) > 0 && g.N(8) > 0:
		return l[g.N(len(l))]
	case g.N(3) == 0:
		return handle.Handle(g.N(600))
	}
	return 0
}

// Token is mostly 0, or one that lends to a task.
func (g *Gen) Token(s model.State, task int) handle.Handle {
	if l := s.K.Of(task); len(l) > 0 && g.N(3) > 0 {
		return l[g.N(len(l))]
	}
	return handle.Handle(g.N(4) * g.N(4))
}

// Call is one that a task may want; whether it may be done is left open.
func (g *Gen) Call(s model.State, task int) model.Call {
	c := model.Call{Do: uint8(1 + g.N(22)), R: g.Handle(s), S: g.Handle(s), A: uint32(g.N(8)), B: uint32(g.N(2)), V: uint64(g.N(1 << 20))}
	if c.Do == model.Exit || c.Do == model.Kill {
		if g.N(6) > 0 {
			c.Do = model.New
		}
	}
	switch c.Do {
	case model.New:
		c.A = uint32(g.N(12))
		if g.N(2) == 0 {
			c.R = 0
		}
	case model.Alloc:
		c.A, c.B = uint32(1+g.N(132)), 1<<g.N(4)
	case model.Load, model.Store:
		c.A, c.B = uint32(g.N(48)), uint32(g.N(10))
	case model.Lend, model.Return:
		c.S = g.Token(s, task)
	}
	return c
}

// Instr is an instruction of a program of so many. Programs keep 0 in register 0, and a region of their own in register 1; registers 2 and 4 have whatever comes.
func (g *Gen) Instr(of int) code.Instr {
	region := func() uint8 { return [...]uint8{0, 1, 1, 1, 2, 2, 4, 4}[g.N(8)] }
	switch k := g.N(24); {
	case k < 4:
		return code.Instr{Op: code.Set, A: 2, N: uint16(1 + g.N(8))}
	case k < 8:
		return code.Instr{Op: code.Set, A: 5 + uint8(g.N(2)), N: uint16(g.N(8))}
	case k == 8:
		return code.Instr{Op: code.Set, A: 2, N: uint16(257 + g.N(4))}
	case k == 9:
		return code.Instr{Op: code.Add + uint8(g.N(3)), A: 2 + uint8(g.N(2)), B: 3 + uint8(g.N(5)), C: uint8(g.N(8)), N: uint16(g.N(70))}
	case k == 10:
		return code.Instr{Op: code.If, A: uint8(g.N(8)), N: uint16(g.N(of))}
	}
	x := code.Instr{Op: code.CallBase + uint8(1+g.N(code.Calls)), A: 3, B: region(), C: region(), N: uint16(g.N(2))}
	switch x.Op - code.CallBase {
	case model.Alloc:
		x.N = 1 << g.N(4)
	case model.Load, model.Store:
		x.N = uint16(1 + g.N(8))
	case model.Exit, model.Kill:
		if g.N(8) > 0 {
			x.Op = code.CallBase + model.Recv
		}
	}
	return x
}

// few are some instructions that go together, so that calls of each kind come to be done.
func (g *Gen) few() []code.Instr {
	set := func(n int) code.Instr { return code.Instr{Op: code.Set, A: 6, N: uint16(n)} }
	do := func(d, b, c uint8, n int) code.Instr {
		return code.Instr{Op: code.CallBase + d, A: 3, B: b, C: c, N: uint16(n)}
	}
	keep := code.Instr{Op: code.Add, A: 2, B: 4}
	quota, to := set(g.N(6)), set(g.N(4))
	switch g.N(9) {
	case 0:
		return []code.Instr{quota, do(model.New, 1, 0, 0), keep, do(model.Ref, 2, 1, 0), do(model.Deref, 2, 0, 0), do(model.Cut, 2, 0, 0)}
	case 1:
		return []code.Instr{quota, do(model.New, 0, 0, 0), keep, do(model.Graft, 2, 1, 0)}
	case 2:
		return []code.Instr{to, do(model.Lend, 1, 0, g.N(2))}
	case 3:
		return []code.Instr{{Op: code.Set, A: 2, N: uint16(1 + g.N(3))}, do(model.Return, 0, 2, 0)}
	case 4:
		return []code.Instr{quota, do(model.New, 0, 0, 0), keep, to, do(model.Send, 2, 0, 0)}
	case 5:
		return []code.Instr{do(model.TryRecv, 0, 0, 0), keep}
	case 6:
		return []code.Instr{quota, do(model.New, 0, 0, 0), keep, do(model.Freeze, 2, 0, 0), to, do(model.Share+uint8(4*g.N(2)), 2, 0, 1)}
	case 7:
		return []code.Instr{do(model.Drop, 2, 0, 0), set(g.N(12)), do(model.Store, 1, 0, 8), do(model.Load, 1, 0, 4)}
	}
	if g.N(4) > 0 {
		return []code.Instr{to, do(model.Spawn, 0, 0, 0)}
	}
	return []code.Instr{to, do(model.Kill, 0, 0, 0)}
}

// body is a program that begins so, then makes a region with bytes, and then goes round.
func (g *Gen) body(l []code.Instr) string {
	l = append(l,
		code.Instr{Op: code.Set, A: 6, N: uint16(2 + g.N(6))}, code.Instr{Op: code.CallBase + model.New, A: 3},
		code.Instr{Op: code.Add, A: 1, B: 4}, code.Instr{Op: code.Set, A: 6, N: uint16(16 + g.N(24))},
		code.Instr{Op: code.CallBase + model.Alloc, A: 3, B: 1, N: 8})
	begin := len(l)
	n := begin + 6 + g.N(24)
	for len(l) < n {
		if g.N(2) == 0 && len(l)+6 < n {
			l = append(l, g.few()...)
		} else {
			l = append(l, g.Instr(n))
		}
	}
	l = append(l, code.Instr{Op: code.Jump, N: uint16(begin)})
	b, _ := code.Encode(l)
	return b
}

// Programs is a script without picks, of so many tasks, of which the first one spawns all others.
func (g *Gen) Programs(tasks int) script.Script {
	s := script.Script{Pages: 4 + g.N(28)}
	for i := range tasks {
		var l []code.Instr
		for k := 1; k < tasks && i == 0; k++ {
			l = append(l, code.Instr{Op: code.Set, A: 6, N: uint16(k)}, code.Instr{Op: code.CallBase + model.Spawn, A: 3})
		}
		s.Programs = append(s.Programs, g.body(l))
	}
	return s
}

// Script is a script with picks.
func (g *Gen) Script(tasks, picks int) script.Script {
	s := g.Programs(tasks)
	for range picks {
		s.Picks = append(s.Picks, g.pick(tasks))
	}
	return s
}

func (g *Gen) pick(tasks int) uint8 {
	switch g.N(100) {
	case 0:
		if g.N(3) == 0 {
			return script.Slay + uint8(g.N(tasks))
		}
	case 1, 2, 3, 4, 5, 6:
		return script.Reap
	}
	return uint8(g.N(tasks))
}
