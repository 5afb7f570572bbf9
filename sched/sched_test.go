package sched_test

import (
	"math"
	"reflect"
	"slices"
	"testing"

	"bailiwick/api"
	"bailiwick/code"
	"bailiwick/machine"
	"bailiwick/model"
	"bailiwick/sample"
	. "bailiwick/sched"
	"bailiwick/script"
)

// loops is a machine on which the tasks of these numbers, and 0, go round for ever; the task 0 first makes a region with a page, and deletes it.
func loops(t *testing.T, tasks ...uint16) *machine.Machine {
	t.Helper()
	var l []code.Instr
	for _, k := range tasks {
		l = append(l, code.Instr{Op: code.Set, A: 6, N: k}, code.Instr{Op: code.CallBase + model.Spawn})
	}
	l = append(l, code.Instr{Op: code.Set, A: 6, N: 64}, code.Instr{Op: code.CallBase + model.New}, code.Instr{Op: code.Set, A: 1, N: 1}, code.Instr{Op: code.CallBase + model.Alloc, B: 1, N: 8}, code.Instr{Op: code.CallBase + model.Delete, B: 1}, code.Instr{Op: code.Jump})
	l[len(l)-1].N = uint16(len(l) - 1)
	first, _ := code.Encode(l)
	round, _ := code.Encode([]code.Instr{{Op: code.Jump}})
	s := script.Script{Pages: 4, Programs: []string{first, round, round, round, round, round, round, round}}
	m, e := machine.New(s)
	if e != api.OK {
		t.Fatal(e)
	}
	for range 3*len(tasks) + 1 + 2 + 1 + 6 + 3 {
		if m.Pick(0) != api.OK {
			t.Fatal("pick")
		}
	}
	if len(m.Core().Queue) != 2 {
		t.Fatal("queue", m.Core().Queue)
	}
	return m
}

func follow(t *testing.T, p Policy, m *machine.Machine, n int) ([]uint8, Policy) {
	t.Helper()
	var l []uint8
	for range n {
		q, b, ok, e := p.Next(m)
		if e != api.OK || !ok {
			return l, p
		}
		if m.Pick(b) != api.OK {
			t.Fatal("refused", b)
		}
		l, p = append(l, b), q
	}
	return l, p
}

// P25.1, and the document's example.
func TestKinds(t *testing.T) {
	for _, x := range []struct {
		p Policy
		l []uint8
	}{
		{Policy{}, []uint8{0, 2, 0, 2}}, {Policy{Last: 1}, []uint8{2, 0, 2}}, {Policy{Last: 3}, []uint8{0, 2}}, {Policy{Last: 200}, []uint8{0, 2}},
		{Policy{Kind: Rank}, []uint8{0, 0, 0}}, {Policy{Kind: Rank, Order: []uint8{9, 1, 2, 0}}, []uint8{2, 2, 2}}, {Policy{Kind: Rank, Order: []uint8{7, 255}}, []uint8{0, 0}},
		{Policy{Every: 2}, []uint8{0, 2, 8, 0, 2, 8, 0, 2, 0}}, {Policy{Every: 1, Since: 5}, []uint8{8, 0, 8, 2, 0}},
	} {
		if l, _ := follow(t, x.p, loops(t, 2), len(x.l)); !slices.Equal(l, x.l) {
			t.Error(x, l)
		}
	}
	m := loops(t, 1, 3, 6)
	p := Policy{Kind: Draw, Seed: 0x123456789abcdef}
	seed := p.Seed
	for range 50 {
		q, b, ok, e := p.Next(m)
		if b != []uint8{0, 1, 3, 6}[(seed>>33)%4] || !ok || e != api.OK || q.Seed != seed*Factor+1 || q.Last != b+1 || q.Since != p.Since+1 {
			t.Fatal(b, q)
		}
		p, seed = q, q.Seed
	}
	m.Pick(script.Slay)
	for k := range uint8(8) {
		m.Pick(script.Slay + k)
	}
	if l, q := follow(t, p, m, 9); !slices.Equal(l, []uint8{8, 8}) || q.Since != 0 || q.Last != p.Last {
		t.Error(l, q)
	}
	q, b, ok, e := p.Next(m)
	if b != 0 || ok || e != api.OK || !reflect.DeepEqual(p, q) {
		t.Error("none is left", b, ok, e)
	}
}

// P25.1: what may not be; and nothing is picked, or shared.
func TestWrong(t *testing.T) {
	m := loops(t)
	for _, x := range []struct {
		p   Policy
		may bool
	}{
		{Policy{Kind: 3}, false}, {Policy{Kind: 255}, false}, {Policy{Order: make([]uint8, 17)}, false}, {Policy{Order: make([]uint8, 16)}, true}, {Policy{Every: -1}, false}, {Policy{Every: 101}, false},
		{Policy{Every: math.MinInt}, false}, {Policy{Every: 100}, true}, {Policy{Kind: Draw}, true}, {Policy{Kind: Draw, Order: make([]uint8, 20), Seed: 4, Last: 3}, false},
	} {
		q, b, ok, e := x.p.Next(m)
		if x.p.May() != x.may || ok != x.may || (e == api.OK) != x.may || !x.may && (e != api.ErrArg || b != 0 || !reflect.DeepEqual(q, x.p)) {
			t.Error(x, e)
		}
		q, b, ok, e = x.p.Next(nil)
		if e != api.ErrNil || ok || b != 0 || !reflect.DeepEqual(q, x.p) {
			t.Error(x, e)
		}
	}
	now := m.Now()
	p := Policy{Kind: Rank, Order: []uint8{0}}
	q, _, _, _ := p.Next(m)
	q.Order[0] = 5
	if p.Order[0] != 0 || m.Now() != now {
		t.Error("picked, or shared")
	}
}

// P25.2
func TestGap(t *testing.T) {
	for _, x := range []struct {
		l    []uint8
		task uint8
		n    int
	}{{nil, 0, 0}, {[]uint8{0, 1, 8, 0, 1}, 0, 2}, {[]uint8{0, 1, 8, 0, 1}, 1, 2}, {[]uint8{0, 1, 8, 16}, 0, 3}, {[]uint8{1, 2, 3}, 0, 3}, {[]uint8{0, 0}, 0, 0}} {
		if n := Gap(x.l, x.task); n != x.n {
			t.Error(x, n)
		}
	}
}

// P25.3, P25.4
func TestPlays(t *testing.T) {
	for seed := range 45 {
		g := sample.New(seed)
		m, _ := machine.New(g.Programs(4))
		p := Policy{Kind: uint8(seed % 3), Order: []uint8{uint8(g.N(4)), uint8(g.N(4))}, Seed: uint64(g.N(1 << 30)), Every: g.N(4)}
		waited := map[int]int{}
		for range 500 {
			q, b, ok, _ := p.Next(m)
			some := len(m.Core().Queue) > 0
			for k := range api.MaxTasks {
				some = some || m.Ready(k)
			}
			if ok != some {
				t.Fatal("there is none", seed)
			}
			if !ok {
				break
			}
			ready := []bool{}
			for k := range api.MaxTasks {
				ready = append(ready, m.Ready(k))
			}
			if m.Pick(b) != api.OK {
				t.Fatal("refused", seed, b)
			}
			for k := range api.MaxTasks {
				waited[k]++
				if !ready[k] || int(b) == k {
					waited[k] = 0
				} else if b == script.Reap {
					waited[k]--
				}
				if p.Kind == Round && waited[k] > 7 {
					t.Fatal("waits", k)
				}
			}
			p = q
		}
	}
}
