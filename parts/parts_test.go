package parts_test

import (
	"testing"

	"bailiwick/api"
	"bailiwick/code"
	"bailiwick/machine"
	"bailiwick/model"
	. "bailiwick/parts"
	"bailiwick/sample"
	"bailiwick/script"
)

func count(t *testing.T, m *machine.Machine, w Parts) {
	t.Helper()
	if p, e := Count(m); p != w || e != api.OK {
		t.Error(p, e)
	}
}

// P21.1, P21.2, and the document's example.
func TestCount(t *testing.T) {
	b, _ := code.Encode([]code.Instr{{Op: code.Set, A: 6, N: 8}, {Op: code.CallBase + model.New}, {Op: code.Set, A: 6, N: 40}, {Op: code.CallBase + model.Alloc, B: 4, N: 1}, {Op: code.CallBase + model.Alloc, B: 1, N: 1}})
	m, _ := machine.New(script.Script{Pages: 4, Programs: []string{b}})
	count(t, m, Parts{Free: 4})
	if !Whole(m) || Quiet(m) {
		t.Error("at first")
	}
	for range 7 {
		m.Pick(0)
	}
	count(t, m, Parts{Free: 2, Calls: 2})
	for range 3 {
		m.Pick(0)
	}
	count(t, m, Parts{Free: 2, Regions: 2})
	if Whole(m) {
		t.Error("whole")
	}
	m.Pick(script.Slay)
	count(t, m, Parts{Free: 2, Queued: 2})
	if Quiet(m) || Whole(m) {
		t.Error("queued")
	}
	m.Pick(script.Reap)
	m.Pick(script.Reap)
	count(t, m, Parts{Free: 4})
	if !Quiet(m) || !Whole(m) {
		t.Error("quiet")
	}
}

// P21.1, P21.2: no machine, and pages that are of none, or of two.
func TestWrong(t *testing.T) {
	if p, e := Count(nil); p != (Parts{}) || e != api.ErrNil || Whole(nil) || Quiet(nil) {
		t.Error(p, e)
	}
	m, _ := machine.New(script.Script{Pages: 4, Programs: []string{""}})
	m.Core().P.Claim(1)
	if p, e := Count(m); p != (Parts{}) || e != api.ErrState {
		t.Error("of none", p, e)
	}
	b, _ := code.Encode([]code.Instr{{Op: code.Set, A: 6, N: 8}, {Op: code.CallBase + model.New}, {Op: code.CallBase + model.Alloc, B: 4, N: 1}})
	m, _ = machine.New(script.Script{Pages: 4, Programs: []string{b}})
	for range 8 {
		m.Pick(0)
	}
	count(t, m, Parts{Free: 3, Regions: 1})
	m.Core().P.Back(0)
	if p, e := Count(m); p != (Parts{}) || e != api.ErrState {
		t.Error("of two", p, e)
	}
}

// P21.3, and P4 of the whole.
func TestWhatever(t *testing.T) {
	for seed := range 60 {
		s := sample.New(seed).Script(4, 400)
		m, _ := machine.New(s)
		for _, b := range s.Picks {
			m.Pick(b)
			p, e := Count(m)
			if e != api.OK || p.Free+p.Regions+p.Calls+p.Queued != s.Pages {
				t.Fatal(p, e)
			}
		}
		for k := range api.MaxTasks {
			m.Pick(script.Slay + uint8(k))
		}
		p, _ := Count(m)
		for range p.Queued {
			if Quiet(m) || m.Pick(script.Reap) != api.OK {
				t.Fatal("reap")
			}
		}
		if !Quiet(m) || !Whole(m) || p.Regions+p.Calls != 0 {
			t.Fatal("quiet")
		}
	}
}
