package resume

import (
	"reflect"
	"slices"
	"testing"

	"bailiwick/api"
	"bailiwick/code"
	"bailiwick/journal"
	"bailiwick/machine"
	"bailiwick/sample"
	"bailiwick/script"
)

// round is a script of one task that goes round for ever.
func round() script.Script {
	b, _ := code.Encode([]code.Instr{{Op: code.Jump}})
	return script.Script{Pages: 4, Programs: []string{b}, Picks: []uint8{9, 99}}
}

func begin(t *testing.T, s script.Script) *Host {
	t.Helper()
	h, e := Begin(s)
	if e != api.OK {
		t.Fatal(e)
	}
	return h
}

func picks(t *testing.T, j string) int {
	t.Helper()
	told, e := journal.Read(j)
	if e != api.OK {
		t.Fatal(e)
	}
	return len(told.Script.Picks)
}

// P28.1, P28.2, P28.3, and the document's example.
func TestExample(t *testing.T) {
	h := begin(t, round())
	if h.Waits() != 0 || h.Machine().Now() != 0 || picks(t, h.Stop()) != 0 {
		t.Error("at first")
	}
	h.Do(0)
	if h.Waits() != 1 || picks(t, h.Stop()) != 0 {
		t.Error(h.Waits())
	}
	if n, e := h.Write(); n != 1 || e != api.OK || h.Waits() != 0 {
		t.Error(n, e)
	}
	h.Do(0)
	g, e := Open(h.Stop())
	if e != api.OK || g.Machine().Now() != 1 || g.Waits() != 0 || h.Machine().Now() != 2 {
		t.Error(e)
	}
	if e := h.Do(1); e != api.ErrState || h.Waits() != 1 {
		t.Error("refused picks do not wait", e)
	}
	g, _ = Open(h.Stop() + "torn")
	if g.Stop() != h.Stop() {
		t.Error("what is torn is left out")
	}
}

// P28.1 to P28.3: what is refused.
func TestWrong(t *testing.T) {
	if h, e := Begin(script.Script{}); h != nil || e != api.ErrForm {
		t.Error(e)
	}
	if h, e := Open("BLWK"); h != nil || e != api.ErrForm {
		t.Error(e)
	}
	var h *Host
	n, e := h.Write()
	if h.Do(99) != api.ErrNil || n != 0 || e != api.ErrNil || h.Stop() != "" || h.Waits() != 0 || h.Machine() != nil {
		t.Error("nil")
	}
	h = begin(t, round())
	if h.Do(9) != api.ErrArg || h.Do(8) != api.ErrEmpty || h.Do(17) != api.ErrState || h.Waits() != 0 {
		t.Error("refused")
	}
	if n, e := h.Write(); n != 0 || e != api.OK {
		t.Error("nothing waits", n, e)
	}
}

// P28.2: what waits is written when it is MaxWait, in records; and there are no more than MaxScript.
func TestLimits(t *testing.T) {
	h := begin(t, round())
	for range MaxWait - 1 {
		h.Do(0)
	}
	if h.Waits() != 299 || picks(t, h.Stop()) != 0 {
		t.Error(h.Waits())
	}
	before := h.Stop()
	h.Do(0)
	if h.Waits() != 0 || picks(t, h.Stop()) != 300 || h.Stop()[len(before)] != 200 || h.Stop()[len(before)+205] != 100 {
		t.Error(h.Waits())
	}
	for range api.MaxScript - 300 {
		if e := h.Do(0); e != api.OK {
			t.Fatal(e)
		}
	}
	if h.Waits() != 100 || h.Do(0) != api.ErrLimit || h.Do(16) != api.ErrLimit || h.Do(1) != api.ErrState || h.Do(8) != api.ErrEmpty || h.Do(9) != api.ErrArg || h.Machine().Now() != 4000 {
		t.Error("limit", h.Waits())
	}
	if n, e := h.Write(); n != 100 || e != api.OK || h.Do(0) != api.ErrLimit {
		t.Error(n, e)
	}
	g, _ := Open(h.Stop())
	if g.Do(0) != api.ErrLimit || !reflect.DeepEqual(g.Machine(), h.Machine()) {
		t.Error("opened")
	}
}

// P28.4, P28.5
func TestStops(t *testing.T) {
	for seed := range 12 {
		g := sample.New(seed)
		s := g.Script(3, 500)
		h := begin(t, s)
		var done []uint8
		torn := begin(t, s).Stop()
		for _, b := range s.Picks {
			if h.Do(b) == api.OK {
				done = append(done, b)
			}
			switch g.N(40) {
			case 0:
				h.Write()
			case 1:
				n := len(done) - h.Waits()
				next, e := Open(h.Stop())
				m, _, _ := machine.Run(script.Script{Pages: s.Pages, Programs: s.Programs, Picks: done[:n]})
				if e != api.OK || !reflect.DeepEqual(next.Machine(), m) {
					t.Fatal("goes on", seed)
				}
				for _, lost := range done[n:] {
					next.Do(lost)
				}
				h = next
			}
		}
		m, _, _ := machine.Run(script.Script{Pages: s.Pages, Programs: s.Programs, Picks: done})
		if !reflect.DeepEqual(h.Machine(), m) {
			t.Fatal("as if it had not stopped", seed)
		}
		h.Write()
		for range 10 {
			at := len(torn) + g.N(len(h.Stop())-len(torn)+1)
			next, e := Open(h.Stop()[:at])
			n := picks(t, h.Stop()[:at])
			m, _, _ := machine.Run(script.Script{Pages: s.Pages, Programs: s.Programs, Picks: done[:n]})
			if e != api.OK || !reflect.DeepEqual(next.Machine(), m) || !slices.Equal([]byte(next.Stop()), []byte(h.Stop()[:len(next.Stop())])) {
				t.Fatal("torn", seed)
			}
		}
	}
}
