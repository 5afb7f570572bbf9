package session_test

import (
	"math"
	"reflect"
	"slices"
	"testing"

	"bailiwick/api"
	"bailiwick/code"
	"bailiwick/flow"
	"bailiwick/machine"
	"bailiwick/model"
	"bailiwick/parts"
	"bailiwick/sample"
	"bailiwick/sched"
	"bailiwick/script"
	. "bailiwick/session"
)

func one(l ...code.Instr) script.Script {
	b, _ := code.Encode(l)
	return script.Script{Pages: 4, Programs: []string{b}, Picks: []uint8{3, 8}}
}

// P26.1, and the document's example.
func TestPlay(t *testing.T) {
	recv := code.Instr{Op: code.CallBase + model.Recv}
	for _, x := range []struct {
		s     script.Script
		most  int
		kind  uint8
		picks []uint8
		waits []int
	}{
		{one(code.Instr{}), 10, Quiet, []uint8{0, 0}, nil}, {one(code.Instr{}), 2, Quiet, []uint8{0, 0}, nil}, {one(code.Instr{}), 1, Cut, []uint8{0}, nil}, {one(code.Instr{}), 0, Cut, nil, nil},
		{one(recv), 10, Stuck, []uint8{0}, []int{0}}, {one(recv), 1, Stuck, []uint8{0}, []int{0}}, {one(code.Instr{Op: code.Jump}), 3, Cut, []uint8{0, 0, 0}, nil},
	} {
		m, o, e := Play(x.s, sched.Policy{}, x.most)
		if e != api.OK || o.Kind != x.kind || !slices.Equal(o.Script.Picks, x.picks) || !slices.Equal(o.Waits, x.waits) || m.Now() != len(x.picks) || o.Script.Pages != 4 || !slices.Equal(o.Script.Programs, x.s.Programs) {
			t.Error(x, o, e)
		}
	}
}

// P26.1, P26.2: what is refused, in order.
func TestWrong(t *testing.T) {
	ok := one(code.Instr{})
	ok.Picks = []uint8{99}
	bad := script.Script{Pages: 4}
	for _, x := range []struct {
		s    script.Script
		p    sched.Policy
		most int
		e    api.Errno
	}{
		{bad, sched.Policy{Kind: 9}, -1, api.ErrForm}, {ok, sched.Policy{Kind: 9}, 1, api.ErrArg}, {ok, sched.Policy{}, -1, api.ErrArg}, {ok, sched.Policy{}, 4001, api.ErrArg},
		{ok, sched.Policy{}, math.MinInt, api.ErrArg}, {ok, sched.Policy{}, 4000, api.OK},
	} {
		m, o, e := Play(x.s, x.p, x.most)
		n, u, f := Kill(x.s, x.p, x.most, 0, 0)
		if e != x.e || f != x.e || e != api.OK && (m != nil || n != nil || !reflect.DeepEqual(o, Outcome{}) || !reflect.DeepEqual(u, Outcome{})) {
			t.Error(x, e, f)
		}
	}
}

// P26.2
func TestKill(t *testing.T) {
	round := one(code.Instr{Op: code.Jump})
	recv := one(code.Instr{Op: code.CallBase + model.Recv})
	for _, x := range []struct {
		s        script.Script
		most, at int
		task     uint8
		kind     uint8
		picks    []uint8
	}{
		{round, 9, 0, 0, Quiet, []uint8{16}}, {round, 9, 2, 8, Quiet, []uint8{0, 0, 16}}, {round, 3, 2, 0, Quiet, []uint8{0, 0, 16}}, {round, 2, 2, 0, Cut, []uint8{0, 0}}, {round, 2, 3, 0, Cut, []uint8{0, 0}},
		{round, 3, 1, 5, Cut, []uint8{0, 0, 0}}, {round, 2, -1, 0, Cut, []uint8{0, 0}}, {round, 2, math.MinInt, 0, Cut, []uint8{0, 0}}, {round, 2, math.MaxInt, 0, Cut, []uint8{0, 0}},
		{recv, 9, 1, 0, Quiet, []uint8{0, 16}}, {recv, 1, 1, 0, Cut, []uint8{0}}, {recv, 9, 2, 0, Stuck, []uint8{0}}, {recv, 0, 0, 0, Cut, nil}, {one(code.Instr{}), 9, 2, 0, Quiet, []uint8{0, 0}},
	} {
		m, o, e := Kill(x.s, sched.Policy{}, x.most, x.at, x.task)
		if e != api.OK || o.Kind != x.kind || !slices.Equal(o.Script.Picks, x.picks) || m.Now() != len(x.picks) {
			t.Error(x, o, e)
		}
	}
}

// P26.3, P26.4
func TestPlayed(t *testing.T) {
	kinds := map[uint8]int{}
	for seed := range 90 {
		g := sample.New(seed)
		s, p := g.Programs(3), sched.Policy{Kind: uint8(seed % 3), Seed: uint64(seed), Every: g.N(5)}
		m, o, _ := Kill(s, p, 300+g.N(200), g.N(600), uint8(g.N(8)))
		n, errs, _ := machine.Run(o.Script)
		if !reflect.DeepEqual(m, n) || slices.ContainsFunc(errs, func(e api.Errno) bool { return e != api.OK }) {
			t.Fatal("played again", seed)
		}
		if (o.Kind == Stuck) != (m.Waits() != nil) && o.Kind != Cut || o.Kind == Stuck && !slices.Equal(o.Waits, m.Waits()) || o.Kind != Cut && (o.Kind == Quiet) != parts.Quiet(m) {
			t.Fatal("outcome", seed, o.Kind)
		}
		if o.Kind == Quiet && !parts.Whole(m) {
			t.Fatal("whole", seed)
		}
		kinds[o.Kind]++
	}
	ends := 0
	for seed := range 300 {
		g := sample.New(seed)
		s := g.Programs(3)
		for i, b := range s.Programs {
			l, _ := code.Decode(b)
			l[len(l)-1] = code.Instr{}
			s.Programs[i], _ = code.Encode(l)
			if _, e := flow.Longest(l); e != api.OK {
				s.Programs[i] = ""
			}
		}
		_, o, _ := Play(s, sched.Policy{}, api.MaxScript)
		if o.Kind == Cut {
			t.Fatal("programs that end", seed)
		}
		if o.Kind == Stuck {
			ends++
		}
		kinds[o.Kind]++
	}
	if kinds[Quiet] < 20 || kinds[Stuck] < 5 || kinds[Cut] < 5 {
		t.Error("too few", kinds)
	}
}
