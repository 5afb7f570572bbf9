package access

import (
	"math"
	"math/rand"
	"testing"

	"bailiwick/api"
	"bailiwick/forest"
	"bailiwick/handle"
	"bailiwick/own"
	"bailiwick/token"
)

// made is regions below these, of which the root 1 is the task 0's.
func made(ups ...handle.Handle) Who {
	var w Who
	for _, up := range ups {
		w.T, _, _ = forest.New(w.T, up, 8)
	}
	w.O, _ = w.O.Give(w.T, 1, 0)
	return w
}

func (w *Who) lend(t *testing.T, x token.Token) handle.Handle {
	t.Helper()
	k, h, e := w.K.Lend(x)
	if e != api.OK {
		t.Fatal(e)
	}
	w.K = k
	return h
}

type may struct {
	task int
	h    handle.Handle
	what uint8
	e    api.Errno
}

func check(t *testing.T, w Who, l ...may) {
	t.Helper()
	for _, c := range l {
		if e := w.May(c.task, c.h, c.what); e != c.e {
			t.Error(c, e)
		}
	}
}

// P10.1, and the document's example.
func TestLent(t *testing.T) {
	w := made(0, 1)
	check(t, w, may{0, 1, Load, api.OK}, may{0, 1, Store, api.OK}, may{0, 1, Whole, api.OK}, may{1, 1, Load, api.ErrAccess}, may{1, 1, Whole, api.ErrAccess})
	s := w
	s.lend(t, token.Token{Region: 1, By: 0, To: 2})
	check(t, s, may{0, 1, Load, api.OK}, may{0, 1, Store, api.ErrAccess}, may{2, 1, Load, api.OK}, may{3, 1, Load, api.ErrAccess},
		may{2, 1, Store, api.ErrAccess}, may{0, 1, Whole, api.ErrAccess}, may{0, 2, Whole, api.OK}, may{0, 2, Store, api.OK}, may{2, 2, Load, api.ErrAccess})
	m := w
	a := m.lend(t, token.Token{Region: 2, By: 0, To: 2, Mutable: true})
	check(t, m, may{0, 2, Load, api.ErrAccess}, may{2, 2, Store, api.OK}, may{2, 2, Load, api.OK}, may{2, 2, Whole, api.ErrAccess}, may{0, 1, Whole, api.ErrAccess}, may{0, 1, Store, api.OK})
	m.lend(t, token.Token{Region: 2, By: 2, To: 3, Above: a})
	check(t, m, may{2, 2, Load, api.OK}, may{2, 2, Store, api.ErrAccess}, may{3, 2, Load, api.OK}, may{3, 2, Store, api.ErrAccess})
	back := w
	a = back.lend(t, token.Token{Region: 2, By: 0, To: 2, Mutable: true})
	back.lend(t, token.Token{Region: 2, By: 2, To: 0, Mutable: true, Above: a})
	check(t, back, may{0, 2, Store, api.OK}, may{2, 2, Load, api.ErrAccess})
}

// P10.1: frozen, in flight, nobody's; wrong numbers.
func TestKinds(t *testing.T) {
	w := made(0, 1)
	f := w
	f.O, _ = f.O.Freeze(f.T, 1, 0)
	f.O, _ = f.O.Hold(f.T, 1, 4)
	check(t, f, may{0, 2, Load, api.OK}, may{4, 2, Load, api.OK}, may{5, 2, Load, api.ErrAccess}, may{0, 2, Store, api.ErrAccess}, may{0, 1, Whole, api.ErrAccess}, may{0, 1, 3, api.ErrAccess})
	check(t, f, may{-1, 2, Load, api.ErrAccess}, may{8, 2, Load, api.ErrAccess}, may{math.MinInt, 2, Load, api.ErrAccess})
	f.O, _ = f.O.Fly(f.T, 1)
	check(t, f, may{0, 2, Load, api.ErrAccess}, may{0, 2, Store, api.ErrAccess}, may{0, 1, Whole, api.ErrAccess})
	n := w
	n.O = own.Owns{}
	check(t, n, may{0, 2, Load, api.ErrAccess}, may{0, 2, Store, api.ErrAccess}, may{0, 1, Whole, api.ErrAccess})
	check(t, w, may{0, 9, Load, api.ErrStale}, may{0, 0, 9, api.ErrStale}, may{-1, 257, Load, api.ErrStale}, may{-1, 1, Load, api.ErrAccess},
		may{8, 1, Load, api.ErrAccess}, may{256, 1, Load, api.ErrAccess}, may{math.MaxInt, 1, Store, api.ErrAccess}, may{0, 1, 3, api.ErrAccess}, may{0, 1, 255, api.ErrAccess})
}

// P10.2
func TestOneStores(t *testing.T) {
	g := rand.New(rand.NewSource(10))
	w := made(0, 1, 2, 0)
	w.O, _ = w.O.Give(w.T, 4, 1)
	for range 3000 {
		h := handle.Handle(1 + g.Intn(4))
		x := token.Token{Region: h, By: uint8(g.Intn(3)), To: uint8(g.Intn(3)), Mutable: g.Intn(2) == 0}
		switch g.Intn(6) {
		case 0:
			w.K, _, _ = w.K.Return(handle.Handle(1 + g.Intn(6) + 256*g.Intn(40)))
		case 1:
			w.K = w.K.Clear(h)
		default:
			if l := w.K.On(h); len(l) > 0 && g.Intn(2) == 0 {
				x.Above = l[g.Intn(len(l))]
			}
			w.K, _, _ = w.K.Lend(x)
		}
		for r := handle.Handle(1); r <= 4; r++ {
			stores, loads := 0, 0
			for task := range api.MaxTasks {
				store, load := w.May(task, r, Store) == api.OK, w.May(task, r, Load) == api.OK
				if store {
					stores++
				}
				if load {
					loads++
				}
				if w.May(task, r, Whole) == api.OK && !(store && load) {
					t.Fatal("whole", task, r)
				}
			}
			if stores > 1 || stores == 1 && loads != 1 {
				t.Fatal(r, stores, loads)
			}
		}
	}
}
