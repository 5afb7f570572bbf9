// Package sample makes calls, programs and scripts from seeds: what the tests of many layers run. The same seed always makes the same.
package sample

import (
	"bailiwick/api"
	"bailiwick/code"
	"bailiwick/handle"
	"bailiwick/model"
	"bailiwick/script"
)

// Gen makes numbers, one behind the other.
type Gen struct{ seed uint64 }

// New is one of a seed.
func New(seed int) *Gen { return &Gen{uint64(seed)*2862933555777941757 + 3037000493} }

// N is a number from 0 to n less 1.
func (g *Gen) N(n int) int {
	g.seed = g.seed*6364136223846793005 + 1442695040888963407
	return int((g.seed >> 33) % uint64(n))
}

// Handle is mostly one of a region that is there.
func (g *Gen) Handle(s model.State) handle.Handle {
	l := s.T.All()
	switch {
	case len(l) > 0 && g.N(8) > 0:
		return l[g.N(len(l))]
	case g.N(3) == 0:
		return handle.Handle(g.N(600))
	}
	return 0
}

// Token is mostly 0, or one that lends to a task.
func (g *Gen) Token(s model.State, task int) handle.Handle {
	if l := s.K.Of(task); len(l) > 0 && g.N(3) > 0 {
		return l[g.N(len(l))]
	}
	return handle.Handle(g.N(4) * g.N(4))
}

// Call is one that a task may want; whether it may be done is left open.
func (g *Gen) Call(s model.State, task int) model.Call {
	c := model.Call{Do: uint8(1 + g.N(22)), R: g.Handle(s), S: g.Handle(s), A: uint32(g.N(8)), B: uint32(g.N(2)), V: uint64(g.N(1 << 20))}
	if c.Do == model.Exit || c.Do == model.Kill {
		if g.N(6) > 0 {
			c.Do = model.New
		}
	}
	switch c.Do {
	case model.New:
		c.A = uint32(g.N(12))
		if g.N(2) == 0 {
			c.R = 0
		}
	case model.Alloc:
		c.A, c.B = uint32(1+g.N(132)), 1<<g.N(4)
	case model.Load, model.Store:
		c.A, c.B = uint32(g.N(48)), uint32(g.N(10))
	case model.Lend, model.Return:
		c.S = g.Token(s, task)
	}
	return c
}

// Instr is an instruction of a program of so many.
func (g *Gen) Instr(of int) code.Instr {
	r := func() uint8 { return uint8(g.N(api.MaxRegs)) }
	low := func() uint8 { return uint8(g.N(5)) }
	switch k := g.N(20); {
	case k < 5:
		return code.Instr{Op: code.Set, A: uint8(1 + g.N(6)), N: uint16(g.N(7))}
	case k == 5:
		return code.Instr{Op: code.Set, A: low(), N: uint16(257 + g.N(3))}
	case k == 6:
		return code.Instr{Op: code.Add + uint8(g.N(3)), A: r(), B: r(), C: r(), N: uint16(g.N(70))}
	case k == 7:
		return code.Instr{Op: code.Jump + uint8(g.N(2)), A: r(), N: uint16(g.N(of))}
	}
	x := code.Instr{Op: code.CallBase + uint8(1+g.N(code.Calls)), A: uint8(g.N(3)), B: low(), C: low(), N: uint16(g.N(2))}
	switch x.Op - code.CallBase {
	case model.Alloc:
		x.N = 1 << g.N(4)
	case model.Load, model.Store:
		x.N = uint16(1 + g.N(8))
	case model.Exit, model.Kill:
		if g.N(5) > 0 {
			x.Op = code.CallBase + model.Spawn
		}
	}
	return x
}

// Program is a program's bytes.
func (g *Gen) Program() string {
	var l []code.Instr
	n := 4 + g.N(28)
	for range n {
		l = append(l, g.Instr(n))
	}
	b, _ := code.Encode(l)
	return b
}

// Programs is a script without picks, of so many tasks, of which the first one spawns all others, and makes a root for each.
func (g *Gen) Programs(tasks int) script.Script {
	s := script.Script{Pages: 4 + g.N(28)}
	for i := range tasks {
		b := g.Program()
		if i == 0 {
			b = g.spawning(tasks)
		}
		s.Programs = append(s.Programs, b)
	}
	return s
}

// Script is a script with picks.
func (g *Gen) Script(tasks, picks int) script.Script {
	s := g.Programs(tasks)
	for range picks {
		s.Picks = append(s.Picks, g.pick(tasks))
	}
	return s
}

func (g *Gen) pick(tasks int) uint8 {
	switch g.N(60) {
	case 0:
		return script.Slay + uint8(g.N(tasks))
	case 1, 2, 3, 4:
		return script.Reap
	}
	return uint8(g.N(tasks))
}

func (g *Gen) spawning(tasks int) string {
	var l []code.Instr
	for i := 1; i < tasks; i++ {
		l = append(l, code.Instr{Op: code.Set, A: 6, N: uint16(i)}, code.Instr{Op: code.CallBase + model.Spawn})
	}
	l = append(l, code.Instr{Op: code.Set, A: 6, N: uint16(2 + g.N(6))}, code.Instr{Op: code.CallBase + model.New, A: 1, B: 0})
	n := len(l) + 20
	for len(l) < n {
		l = append(l, g.Instr(n))
	}
	b, _ := code.Encode(l)
	return b
}
