package report_test

import (
	"reflect"
	"slices"
	"testing"

	"bailiwick/api"
	"bailiwick/code"
	"bailiwick/forest"
	"bailiwick/machine"
	"bailiwick/model"
	"bailiwick/own"
	"bailiwick/parts"
	. "bailiwick/report"
	"bailiwick/sample"
	"bailiwick/script"
)

// P22.1, and the document's example.
func TestOf(t *testing.T) {
	do := func(d, a, b, c uint8, n uint16) code.Instr {
		return code.Instr{Op: code.CallBase + d, A: a, B: b, C: c, N: n}
	}
	b, _ := code.Encode([]code.Instr{
		{Op: code.Set, A: 6, N: 1}, do(model.Spawn, 0, 0, 0, 0), do(model.New, 0, 0, 0, 0), do(model.New, 0, 4, 0, 0), {Op: code.Set, A: 1, N: 1}, do(model.Lend, 0, 1, 0, 0),
		do(model.New, 0, 0, 0, 0), do(model.Freeze, 0, 4, 0, 0), do(model.Deref, 0, 0, 0, 0), do(model.Recv, 0, 0, 0, 0),
	})
	m, _ := machine.New(script.Script{Pages: 4, Programs: []string{b}})
	for range 22 {
		m.Pick(0)
	}
	r, e := Of(m)
	want := Account{Calls: 7, Errors: 1, Longest: 3, Regions: 2, Holds: 1, Alive: true, Waits: true}
	if e != api.OK || r.Now != 22 || r.Tasks[0] != want || r.Tasks[1] != (Account{Lent: 1, Alive: true}) || r.Stuck != nil || r.Parts != (parts.Parts{Free: 4}) {
		t.Error(r, e)
	}
	m.Pick(1)
	m.Pick(1)
	r, _ = Of(m)
	if !slices.Equal(r.Stuck, []int{0}) || r.Tasks[1] != (Account{Calls: 1, Longest: 2}) || r.Dos[model.New] != 3 || r.Dos[model.Exit] != 1 || r.Dos[model.Freeze] != 1 || r.Dos[model.Deref] != 1 || r.Dos[0] != 0 {
		t.Error(r)
	}
	if r, e := Of(nil); !reflect.DeepEqual(r, Report{}) || e != api.ErrNil {
		t.Error(e)
	}
}

// P22.2
func TestSums(t *testing.T) {
	for seed := range 40 {
		m, _, _ := machine.Run(sample.New(seed).Script(4, 400))
		r, _ := Of(m)
		dos, calls, regions := 0, 0, 0
		for _, n := range r.Dos {
			dos += n
		}
		s := m.Core().S
		for k, a := range r.Tasks {
			calls += a.Calls
			regions += a.Regions
			if a.Holds != len(s.O.Held(s.T, k)) {
				t.Fatal("holds")
			}
		}
		for _, h := range s.T.All() {
			if k := s.O.Of(s.T, h).Kind; forest.Root(s.T, h) == h && (k == own.Flight || k == own.Frozen) {
				regions += len(forest.Under(s.T, h))
			}
		}
		if dos != calls || dos != len(m.Events()) || regions != len(s.T.All()) {
			t.Fatal(dos, calls, regions)
		}
	}
}
