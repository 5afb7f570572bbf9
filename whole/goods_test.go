package whole

import (
	"slices"
	"testing"

	"bailiwick/api"
	"bailiwick/clone"
	"bailiwick/dict"
	"bailiwick/handle"
	"bailiwick/list"
	"bailiwick/mem"
	"bailiwick/model"
	"bailiwick/pack"
	"bailiwick/vec"
)

// goods are a list, a map and a row, in one tree.
type goods struct {
	l list.List
	d dict.Dict
	v vec.Vec
}

func made(t *testing.T, m *mem.Mem) goods {
	t.Helper()
	r := m.Call(model.Call{Do: model.New, A: 30}).W
	l, e1 := list.Make(m, r)
	d, e2 := dict.Make(m, r)
	v, e3 := vec.Make(m, r, 12)
	if e1 != api.OK || e2 != api.OK || e3 != api.OK {
		t.Fatal(e1, e2, e3)
	}
	for i := range uint64(10) {
		l.Back(i * i)
		d.Put(i*0x9e3779b97f4a7c15, i)
		v.Push(100 - i)
	}
	v.Sort()
	l.Turn()
	return goods{l, d, v}
}

// as are the goods by another hand, in other regions.
func (g goods) as(m *mem.Mem, r, v handle.Handle) goods {
	return goods{list.List{M: m, R: r, At: g.l.At}, dict.Dict{M: m, R: r, At: g.d.At}, vec.Vec{M: m, R: v}}
}

type words struct {
	l, v []uint64
	d    []dict.Pair
}

func (g goods) words(t *testing.T, want api.Errno) words {
	t.Helper()
	l, e1 := g.l.All()
	d, e2 := g.d.All()
	v, e3 := g.v.All()
	if e1 != want || e2 != want || e3 != want {
		t.Error(e1, e2, e3, "wanted", want)
	}
	return words{l, v, d}
}

func (w words) same(t *testing.T, what string, x words) {
	t.Helper()
	if len(x.l) != 10 || !slices.Equal(w.l, x.l) || !slices.Equal(w.v, x.v) || !slices.Equal(w.d, x.d) {
		t.Error(what, x)
	}
}

func must(t *testing.T, m *mem.Mem, c model.Call) model.Result {
	t.Helper()
	r := m.Call(c)
	if r.E != api.OK {
		t.Fatal(c, r)
	}
	return r
}

// P8: goods.
func TestGoods(t *testing.T) {
	m, _ := mem.Open(64)
	must(t, m, model.Call{Do: model.Spawn, A: 1})
	k, _ := m.As(1)
	g := made(t, m)
	r, v := g.l.R, g.v.R
	want := g.words(t, api.OK)
	g.as(k, r, v).words(t, api.ErrAccess)

	must(t, m, model.Call{Do: model.Send, R: r, A: 1})
	g.words(t, api.ErrAccess)
	must(t, k, model.Call{Do: model.Recv})
	want.same(t, "sent", g.as(k, r, v).words(t, api.OK))
	must(t, k, model.Call{Do: model.Lend, R: r, A: 0})
	must(t, k, model.Call{Do: model.Lend, R: v, A: 0})
	want.same(t, "lent", g.words(t, api.OK))
	if g.l.Back(1) != api.ErrAccess || g.v.Push(1) != api.ErrAccess {
		t.Error("what is lent shared is stored to")
	}
	must(t, m, model.Call{Do: model.Return, S: 1})
	must(t, m, model.Call{Do: model.Return, S: 2})
	b, e := pack.Pack(k, r)
	if e != api.OK {
		t.Fatal(e)
	}
	must(t, k, model.Call{Do: model.Freeze, R: r})
	must(t, k, model.Call{Do: model.Share, R: r, A: 0})
	want.same(t, "frozen and shared", g.words(t, api.OK))
	if _, e := g.d.Put(5, 5); e != api.ErrAccess {
		t.Error("frozen", e)
	}
	c, e := clone.Copy(m, r, 0)
	if e != api.OK {
		t.Fatal(e)
	}
	want.same(t, "copied", g.as(m, c, below(m, c)).words(t, api.OK))
	must(t, m, model.Call{Do: model.Delete, R: c})

	must(t, k, model.Call{Do: model.Drop, R: r})
	want.same(t, "held by one", g.words(t, api.OK))
	must(t, m, model.Call{Do: model.Drop, R: r})
	g.words(t, api.ErrStale)
	if x := m.Core(); x.P.Free().Count()+len(x.Queue) != 64 {
		t.Error("its pages come back")
	}
	other, _ := mem.Open(40)
	must(t, other, model.Call{Do: model.New, A: 1})
	u, e := pack.Unpack(other, 0, b)
	if e != api.OK {
		t.Fatal(e)
	}
	h := g.as(other, u, below(other, u))
	want.same(t, "unpacked elsewhere", h.words(t, api.OK))
	if h.l.Front(7) != api.OK || h.v.Push(7) != api.OK {
		t.Error("it goes on")
	}
}

// below is the first region right below one.
func below(m *mem.Mem, h handle.Handle) handle.Handle {
	t := m.Core().S.T
	for _, x := range t.All() {
		if r, _ := t.Get(x); r.Up == h {
			return x
		}
	}
	return 0
}
