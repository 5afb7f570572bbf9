package audit

import (
	"slices"
	"testing"

	"bailiwick/api"
	"bailiwick/call"
	"bailiwick/extent"
	"bailiwick/handle"
	"bailiwick/machine"
	"bailiwick/mail"
	"bailiwick/mem"
	"bailiwick/model"
	"bailiwick/runs"
	"bailiwick/sample"
	"bailiwick/table"
	"bailiwick/token"
)

// made is a core on which the tasks 0 and 1 live, and 0 has 1 above 2, with the page 0, and a frozen 3, and has moved 4 to 1; 1 is lent 2.
func made(t *testing.T) call.Core {
	t.Helper()
	m, _ := mem.Open(4)
	for _, c := range []model.Call{
		{Do: model.Spawn, A: 1}, {Do: model.New, A: 9}, {Do: model.New, R: 1, A: 9}, {Do: model.Alloc, R: 2, A: 8, B: 1}, {Do: model.New, A: 9}, {Do: model.Freeze, R: 3},
		{Do: model.New, A: 9}, {Do: model.Send, R: 4, A: 1}, {Do: model.Lend, R: 2, A: 1, B: 1},
	} {
		if r := m.Call(c); r.E != api.OK {
			t.Fatal(c, r)
		}
	}
	return m.Core()
}

func check(t *testing.T, what string, x call.Core, under []call.Call, want ...Fault) {
	t.Helper()
	if l, e := Check(x, under); !slices.Equal(l, want) || e != api.OK {
		t.Error(what, l, e, "wanted", want)
	}
}

// P41.1, P41.4, and the document's example.
func TestSpoilt(t *testing.T) {
	check(t, "sound", made(t), nil)
	x := made(t)
	x.Queue = []int{3, 3, 0, 99, -1}
	check(t, "pages", x, nil, Fault{Pages, 0}, Fault{Pages, 3})
	x = made(t)
	x.P.Claim(2)
	check(t, "of a call", x, []call.Call{{Run: runs.Run{At: 1, N: 2}}})
	check(t, "of two calls", x, []call.Call{{Run: runs.Run{At: 1, N: 2}}, {Run: runs.Run{At: 2, N: 1 << 62}}}, Fault{Pages, 2}, Fault{Pages, 3})
	check(t, "of none", x, nil, Fault{Pages, 1}, Fault{Pages, 2})
	x = made(t)
	up := handle.Handle(2)
	for range 5 {
		x.S.T, up, _ = x.S.T.New(up, 0)
	}
	check(t, "deep", x, nil, Fault{Deep, 8})
	x = made(t)
	x.S.T, _ = x.S.T.Set(2, table.Region{Quota: 0, E: extent.Extent{Runs: []runs.Run{{At: 0, N: 1}}, Len: 8}})
	check(t, "quota", x, nil, Fault{Quota, 1})
	for _, y := range []struct {
		what  string
		spoil func(*call.Core)
		want  []Fault
	}{
		{"dead", func(x *call.Core) { x.S.Alive[0] = false }, []Fault{{Tree, 0}, {Tree, 2}, {Token, 0}}},
		{"dead receiver", func(x *call.Core) { x.S.Alive[1] = false }, []Fault{{Token, 0}, {Box, 1}}},
		{"nobody's", func(x *call.Core) { x.S.T, _, _ = x.S.T.New(0, 1) }, []Fault{{Tree, 4}}},
		{"flight", func(x *call.Core) { x.S.Boxes[1] = mail.Box{} }, []Fault{{Tree, 3}}},
		{"two messages", func(x *call.Core) { x.S.Boxes[0], _ = x.S.Boxes[0].Put(mail.Message{Region: 4}) }, []Fault{{Tree, 3}}},
		{"shared only", func(x *call.Core) { x.S.Boxes[1], _ = mail.Box{}.Put(mail.Message{Region: 4, Share: true}) }, []Fault{{Tree, 3}}},
		{"held by none", func(x *call.Core) { x.S.O, _, _ = x.S.O.Drop(x.S.T, 3, 0) }, []Fault{{Tree, 2}}},
		{"held by one who is dead", func(x *call.Core) { x.S.O, _ = x.S.O.Hold(x.S.T, 3, 7) }, []Fault{{Tree, 2}}},
		{"not in flight", func(x *call.Core) { x.S.O, _ = x.S.O.Give(x.S.T, 4, 1) }, []Fault{{Box, 1}}},
		{"moved and gone", func(x *call.Core) { x.S.T, _ = x.S.T.Drop(4) }, []Fault{{Box, 1}}},
		{"moved and no root", func(x *call.Core) { x.S.T, _ = x.S.T.Raise(4, 1) }, []Fault{{Box, 1}}},
		{"lent and gone", func(x *call.Core) { x.S.K, _, _ = x.S.K.Lend(token.Token{Region: 77, By: 0, To: 1}) }, []Fault{{Token, 1}}},
		{"lent of a frozen one", func(x *call.Core) { x.S.K, _, _ = x.S.K.Lend(token.Token{Region: 3, By: 0, To: 1}) }, []Fault{{Token, 1}}},
		{"lent by another one", func(x *call.Core) { x.S.K, _, _ = x.S.K.Lend(token.Token{Region: 1, By: 1, To: 0}) }, []Fault{{Token, 1}}},
		{"lent on", func(x *call.Core) { x.S.K, _, _ = x.S.K.Lend(token.Token{Region: 2, By: 1, To: 0, Above: 1}) }, nil},
		{"lent to one who is dead", func(x *call.Core) { x.S.K, _, _ = x.S.K.Lend(token.Token{Region: 1, By: 0, To: 5}) }, []Fault{{Token, 1}}},
	} {
		x := made(t)
		y.spoil(&x)
		check(t, y.what, x, nil, y.want...)
	}
}

// P41.1: marks.
func TestMarks(t *testing.T) {
	x := made(t)
	x.M, _ = x.M.Try(5, 0)
	x.M, _ = x.M.Try(5, 1)
	both := []call.Call{{Task: 0}, {Task: 1}}
	check(t, "sound", x, both)
	check(t, "none has one", x, nil, Fault{Mark, 5})
	check(t, "who waits has none", x, both[:1], Fault{Mark, 5})
	check(t, "one has two", x, append(both, call.Call{Task: 1}), Fault{Mark, 5})
	x.M, _ = x.M.Try(31, 6)
	check(t, "one is dead", x, append(both, call.Call{Task: 6}), Fault{Mark, 31})
}

// P41.1, P41.2
func TestWords(t *testing.T) {
	if l, e := Check(call.Core{}, nil); l != nil || e != api.ErrNil {
		t.Error(e)
	}
	if l, e := Machine(nil); l != nil || e != api.ErrNil {
		t.Error(e)
	}
	for i, w := range []string{"", "Pages", "Deep", "Quota", "Tree", "Token", "Box", "Mark", ""} {
		if Word(uint8(i)) != w {
			t.Error(i)
		}
	}
	if Word(255) != "" {
		t.Error(255)
	}
}

// P41.3, P6 of the whole
func TestWhatever(t *testing.T) {
	for seed := range 25 {
		s := sample.New(seed).Script(4, 250)
		m, _ := machine.New(s)
		for _, b := range s.Picks {
			m.Pick(b)
			if l, e := Machine(m); l != nil || e != api.OK {
				t.Fatal("machine", seed, l, e)
			}
		}
		g := sample.New(seed)
		h, _ := mem.Open(20)
		h.Call(model.Call{Do: model.Spawn, A: 1})
		for range 150 {
			k, _ := h.As(g.N(3))
			k.Call(g.Call(h.Core().S, k.Task()))
			if l, e := Check(h.Core(), nil); l != nil || e != api.OK {
				t.Fatal("hand", seed, l, e)
			}
		}
	}
}
