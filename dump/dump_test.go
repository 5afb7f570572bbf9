package dump_test

import (
	"slices"
	"strings"
	"testing"

	"bailiwick/api"
	"bailiwick/code"
	. "bailiwick/dump"
	"bailiwick/machine"
	"bailiwick/model"
	"bailiwick/runs"
	"bailiwick/sample"
	"bailiwick/script"
)

func lines(t *testing.T, dump string, want ...string) {
	t.Helper()
	l := Lines(dump)
	for _, w := range want {
		if !slices.Contains(l, w) {
			t.Errorf("no line %q in\n%s", w, dump)
		}
	}
	if !strings.HasSuffix(dump, "\n") {
		t.Error("the last end")
	}
}

// P30.1, and the document's example.
func TestState(t *testing.T) {
	want := "next table 1,2,3,4,5,6,7,8,9,10,11,12,13,14,15,16,17,18,19,20,21,22,23,24,25,26,27,28,29,30,31,32\nnext tokens 1,2,3,4,5,6,7,8,9,10,11,12,13,14,15,16\n" +
		"life 0 alive yes born yes\nlife 1 alive no born no\nlife 2 alive no born no\nlife 3 alive no born no\nlife 4 alive no born no\nlife 5 alive no born no\nlife 6 alive no born no\nlife 7 alive no born no\n" +
		"box 0 closed no\nbox 1 closed no\nbox 2 closed no\nbox 3 closed no\nbox 4 closed no\nbox 5 closed no\nbox 6 closed no\nbox 7 closed no\n"
	if d := State(model.Begin()); d != want {
		t.Error(d)
	}
	s := model.Begin()
	do := func(task int, c model.Call, r runs.Run) {
		next, x, _ := s.Do(task, c, r)
		if x.E != api.OK {
			t.Fatal(c, x)
		}
		s = next
	}
	do(0, model.Call{Do: model.Spawn, A: 1}, runs.Run{})
	do(0, model.Call{Do: model.New, A: 9}, runs.Run{})
	do(0, model.Call{Do: model.New, R: 1, A: 2}, runs.Run{})
	do(0, model.Call{Do: model.Alloc, R: 2, A: 30, B: 1}, runs.Run{At: 5, N: 1})
	do(0, model.Call{Do: model.Alloc, R: 2, A: 8, B: 1}, runs.Run{At: 3, N: 1})
	do(0, model.Call{Do: model.Ref, R: 2, A: 7, S: 1}, runs.Run{})
	do(0, model.Call{Do: model.Lend, R: 2, A: 1, B: 1}, runs.Run{})
	do(0, model.Call{Do: model.Lend, R: 1, A: 1}, runs.Run{})
	do(1, model.Call{Do: model.Lend, R: 2, A: 0, S: 1}, runs.Run{})
	do(0, model.Call{Do: model.New, A: 0}, runs.Run{})
	do(0, model.Call{Do: model.Freeze, R: 3}, runs.Run{})
	do(0, model.Call{Do: model.New, A: 0}, runs.Run{})
	do(0, model.Call{Do: model.Delete, R: 4}, runs.Run{})
	do(0, model.Call{Do: model.Send, R: 3, A: 1, B: 1, V: 1 << 63}, runs.Run{})
	do(0, model.Call{Do: model.Send, A: 1, V: 6}, runs.Run{})
	do(1, model.Call{Do: model.Send, A: 1, B: 1, V: 8}, runs.Run{})
	do(1, model.Call{Do: model.Close}, runs.Run{})
	d := State(s)
	lines(t, d,
		"region 1 up 0 quota 9 used 0 runs - cells 0,0,0,0,0,0,0,0 own 1 0 0",
		"region 2 up 1 quota 2 used 40 runs 5+1,3+1 cells 0,0,0,0,0,0,0,1 own 1 0 0",
		"region 3 up 0 quota 0 used 0 runs - cells 0,0,0,0,0,0,0,0 own 3 0 3",
		"token 1 region 2 by 0 to 1 mutable yes above 0", "token 2 region 1 by 0 to 1 mutable no above 0", "token 3 region 2 by 1 to 0 mutable no above 1",
		"next tokens 4,5,6,7,8,9,10,11,12,13,14,15,16", "life 1 alive yes born yes",
		"box 1 closed yes from 0 word 9223372036854775808 region 3 share yes from 0 word 6 region 0 share no from 1 word 8 region 0 share no")
	if !strings.Contains(d, "next table 260,5,6,") || strings.Index(d, "region 3") > strings.Index(d, "next table") || strings.Index(d, "token 3") > strings.Index(d, "next tokens") {
		t.Error(d)
	}
}

// P30.1: behind the word own stand three numbers, and nothing else: the kind's, the task, the holders.
func TestOwn(t *testing.T) {
	s := model.Begin()
	for _, x := range []struct {
		task int
		c    model.Call
	}{
		{0, model.Call{Do: model.Spawn, A: 5}},
		{5, model.Call{Do: model.New, A: 1}}, {5, model.Call{Do: model.New, R: 1}},
		{0, model.Call{Do: model.New}}, {0, model.Call{Do: model.Send, R: 3, A: 5}},
		{0, model.Call{Do: model.New}}, {0, model.Call{Do: model.Freeze, R: 4}}, {0, model.Call{Do: model.Share, R: 4, A: 5}},
	} {
		next, r, _ := s.Do(x.task, x.c, runs.Run{})
		if r.E != api.OK {
			t.Fatal(x, r)
		}
		s = next
	}
	const cells = " used 0 runs - cells 0,0,0,0,0,0,0,0 "
	lines(t, State(s), "region 1 up 0 quota 1"+cells+"own 1 5 0", "region 2 up 1 quota 0"+cells+"own 1 5 0", "region 3 up 0 quota 0"+cells+"own 2 0 0", "region 4 up 0 quota 0"+cells+"own 3 0 33")
}

// P30.2
func TestMachine(t *testing.T) {
	do := func(d, a, b, c uint8, n uint16) code.Instr {
		return code.Instr{Op: code.CallBase + d, A: a, B: b, C: c, N: n}
	}
	set := func(r uint8, n uint16) code.Instr { return code.Instr{Op: code.Set, A: r, N: n} }
	a, _ := code.Encode([]code.Instr{set(6, 1), do(model.Spawn, 0, 0, 0, 0), set(6, 9), do(model.New, 0, 0, 0, 0), set(1, 1), do(model.Alloc, 0, 1, 0, 1), set(6, 0), set(5, 0xfa0b), do(model.Store, 0, 1, 0, 2), set(6, 40), do(model.Alloc, 0, 1, 0, 1)})
	m, _ := machine.New(script.Script{Pages: 4, Programs: []string{a}})
	for range 22 {
		m.Pick(0)
	}
	d, e := Machine(m)
	if e != api.OK || !strings.HasPrefix(d, State(m.Core().S)) {
		t.Error(e)
	}
	lines(t, d, "bytes 1 0bfa00000000000000", "task 0 next 10 regs 0,1,0,0,0,64011,40,0", "task 7 next 0 regs 0,0,0,0,0,0,0,0",
		"call 0 do 2 r 1 s 0 a 40 b 1 v 64011 checked yes left - run 1+2 cleared 1", "mark 0 has 0 wait -", "free pages 3", "queue pages -")
	m.Pick(1)
	m.Pick(script.Slay)
	d, _ = Machine(m)
	lines(t, d, "call 1 do 20 r 0 s 0 a 0 b 0 v 0 checked yes left - run - cleared 0", "queue pages 0,1,2")
	if strings.Contains(d, "call 0") || strings.Contains(d, "mark") || strings.Contains(d, "bytes") {
		t.Error(d)
	}
	if d, e := Machine(nil); d != "" || e != api.ErrNil {
		t.Error(e)
	}
}

// P30.2: marks that are waited for.
func TestMarks(t *testing.T) {
	do := func(d, b uint8, n uint16) code.Instr { return code.Instr{Op: code.CallBase + d, B: b, N: n} }
	set := func(r uint8, n uint16) code.Instr { return code.Instr{Op: code.Set, A: r, N: n} }
	a, _ := code.Encode([]code.Instr{set(6, 1), do(model.Spawn, 0, 0), set(6, 8), do(model.New, 0, 0), set(1, 1), do(model.Alloc, 1, 8), set(6, 1), do(model.Lend, 1, 0), set(6, 0), do(model.Load, 1, 8)})
	b, _ := code.Encode([]code.Instr{set(1, 1), do(model.Load, 1, 8)})
	m, _ := machine.New(script.Script{Pages: 4, Programs: []string{a, b}})
	for range 3 + 3 + 1 + 5 + 4 + 1 + 2 {
		m.Pick(0)
	}
	for range 3 {
		m.Pick(1)
	}
	d, _ := Machine(m)
	lines(t, d, "mark 0 has 0 wait 1", "call 1 do 3 r 1 s 0 a 0 b 8 v 0 checked yes left 1 run - cleared 0")
	m.Pick(0)
	d, _ = Machine(m)
	lines(t, d, "mark 0 has - wait 1")
	m.Pick(1)
	d, _ = Machine(m)
	lines(t, d, "mark 0 has 1 wait -")
}

// P30.3
func TestLines(t *testing.T) {
	for _, x := range []struct {
		s string
		l []string
	}{{"", nil}, {"\n", []string{""}}, {"a\nb", []string{"a", "b"}}, {"a\n\nb\n", []string{"a", "", "b"}}, {"a\n\n", []string{"a", ""}}} {
		if l := Lines(x.s); !slices.Equal(l, x.l) {
			t.Errorf("%q %q", x.s, l)
		}
	}
	for _, x := range [][2]string{{"", ""}, {"a", "a"}, {"a b", "a b"}, {"a b c", "a b"}, {"a b ", "a b"}, {"a ", "a "}, {" ", " "}, {"  ", " "}, {"  x", " "}, {"next table 1,2", "next table"}} {
		if k := Key(x[0]); k != x[1] {
			t.Errorf("%q %q", x[0], k)
		}
	}
}

// P30.4, P30.5
func TestTells(t *testing.T) {
	for seed := range 12 {
		g := sample.New(seed)
		s := g.Script(3, 300)
		m, _ := machine.New(s)
		met := map[string][]uint8{}
		for i, b := range s.Picks {
			m.Pick(b)
			d, _ := Machine(m)
			keys := map[string]int{}
			for _, l := range Lines(d) {
				keys[Key(l)]++
				if keys[Key(l)] > 1 {
					t.Fatal("two lines of one key", l)
				}
			}
			if way, ok := met[d]; ok && len(way) < i && i%7 == 0 {
				same(t, s, way, s.Picks[:i+1], g)
			}
			met[d] = s.Picks[:i+1]
		}
	}
}

// same asks whether two ways to one dump go on alike.
func same(t *testing.T, s script.Script, a, b []uint8, g *sample.Gen) {
	x, _, _ := machine.Run(script.Script{Pages: s.Pages, Programs: s.Programs, Picks: a})
	y, _, _ := machine.Run(script.Script{Pages: s.Pages, Programs: s.Programs, Picks: b})
	for range 60 {
		p := uint8(g.N(25))
		d, _ := Machine(x)
		e, _ := Machine(y)
		if d != e || x.Pick(p) != y.Pick(p) {
			t.Fatal("unlike")
		}
	}
}
