package list

import (
	"math"
	"slices"
	"testing"

	"bailiwick/api"
	"bailiwick/handle"
	"bailiwick/mem"
	"bailiwick/model"
	"bailiwick/sample"
)

// region is a hand, and a region of a quota.
func region(t *testing.T, quota uint32) (*mem.Mem, handle.Handle) {
	t.Helper()
	m, _ := mem.Open(64)
	r := m.Call(model.Call{Do: model.New, A: quota})
	if r.E != api.OK {
		t.Fatal(r)
	}
	return m, r.W
}

func made(t *testing.T, m *mem.Mem, r handle.Handle) List {
	t.Helper()
	l, e := Make(m, r)
	if e != api.OK {
		t.Fatal(e)
	}
	return l
}

func has(t *testing.T, l List, want ...uint64) {
	t.Helper()
	all, e := l.All()
	n, f := l.Len()
	if !slices.Equal(all, want) || n != len(want) || e != api.OK || f != api.OK {
		t.Error(all, n, e, f, "wanted", want)
	}
}

// P36.1, P36.2, and the document's example.
func TestExample(t *testing.T) {
	m, r := region(t, 8)
	l := made(t, m, r)
	if l != (List{m, r, 0}) {
		t.Error(l)
	}
	has(t, l)
	l.Back(1)
	l.Back(2)
	l.Front(0)
	has(t, l, 0, 1, 2)
	if v, e := l.Pop(); v != 0 || e != api.OK {
		t.Error(v, e)
	}
	l.Turn()
	has(t, l, 2, 1)
	if v, e := l.Get(1); v != 1 || e != api.OK {
		t.Error(v, e)
	}
	l.Set(1, 9)
	has(t, l, 2, 9)
	l.Back(3)
	has(t, l, 2, 9, 3)
	l.Pop()
	l.Pop()
	l.Pop()
	has(t, l)
	l.Turn()
	l.Back(7)
	has(t, l, 7)
}

// P36.1: what stands in the bytes: links, values, spare nodes.
func TestBytes(t *testing.T) {
	m, r := region(t, 8)
	l := made(t, m, r)
	l.Back(10)
	l.Back(11)
	l.Front(12)
	l.Pop()
	l.Pop()
	words := func(want ...uint64) {
		t.Helper()
		for i, w := range want {
			if v, _ := m.Word(r, 8*i); v != w {
				t.Error("word", i, v, w)
			}
		}
	}
	words(49, 49, 1, 33, 65, 10, 0, 11, 0, 12)
	l.Back(13)
	words(49, 33, 2, 65, 0, 13, 33, 11, 0, 12)
	l.Turn()
	words(33, 49, 2, 65, 49, 13, 0, 11, 0, 12)
}

// P36.2: a list that becomes empty, and one whose head is not at 0.
func TestEmptied(t *testing.T) {
	m, r := region(t, 9)
	made(t, m, r)
	l := made(t, m, r)
	for range 3 {
		l.Front(1)
		l.Back(2)
		has(t, l, 1, 2)
		l.Pop()
		l.Pop()
		has(t, l)
		l.Back(3)
		l.Front(4)
		l.Back(5)
		has(t, l, 4, 3, 5)
		l.Turn()
		l.Back(6)
		has(t, l, 5, 3, 4, 6)
		for range 4 {
			l.Pop()
		}
		if v, e := l.Pop(); v != 0 || e != api.ErrEmpty {
			t.Error(v, e)
		}
		has(t, l)
	}
	if x, _ := m.Core().S.T.Get(r); x.E.Len != 64+4*16 {
		t.Error(x.E.Len)
	}
}

// P36.1, P36.2: what is refused.
func TestWrong(t *testing.T) {
	m, r := region(t, 2)
	l := made(t, m, r)
	if v, e := l.Pop(); v != 0 || e != api.ErrEmpty {
		t.Error(v, e)
	}
	l.Back(5)
	for _, i := range []int{-1, 1, math.MaxInt, math.MinInt} {
		if v, e := l.Get(i); v != 0 || e != api.ErrRange || l.Set(i, 1) != api.ErrRange {
			t.Error(i, v, e)
		}
	}
	l.Back(6)
	if l.Back(7) != api.ErrMem || l.Front(7) != api.ErrMem {
		t.Error("no memory")
	}
	has(t, l, 5, 6)
	if x, e := Make(m, r); x != (List{}) || e != api.ErrMem {
		t.Error(e)
	}
	if x, e := Make(m, 9); x != (List{}) || e != api.ErrStale {
		t.Error(e)
	}
	m.Call(model.Call{Do: model.Delete, R: r})
	_, e1 := l.Len()
	_, e2 := l.Pop()
	_, e3 := l.Get(-1)
	_, e4 := l.All()
	for _, e := range []api.Errno{e1, e2, e3, e4, l.Front(1), l.Back(1), l.Set(-1, 1), l.Turn()} {
		if e != api.ErrStale {
			t.Error(e)
		}
	}
	var n List
	_, e0 := Make(nil, 1)
	_, e1 = n.Len()
	_, e2 = n.Pop()
	_, e3 = n.Get(-1)
	_, e4 = n.All()
	for _, e := range []api.Errno{e0, e1, e2, e3, e4, n.Front(1), n.Back(1), n.Set(-1, 1), n.Turn()} {
		if e != api.ErrNil {
			t.Error(e)
		}
	}
}

// P36.1, P36.2: lists that are none.
func TestForm(t *testing.T) {
	m, r := region(t, 8)
	l := made(t, m, r)
	l.Back(1)
	l.Back(2)
	m.Set(r, 16, 3)
	_, e1 := l.All()
	_, e2 := l.Get(2)
	v, e3 := l.Get(1)
	if e1 != api.ErrForm || e2 != api.ErrForm || l.Set(2, 1) != api.ErrForm || l.Turn() != api.ErrForm || v != 2 || e3 != api.OK {
		t.Error(e1, e2, v, e3)
	}
	m.Set(r, 48, 33)
	m.Set(r, 16, 1000)
	_, e1 = l.All()
	_, e2 = l.Get(128)
	_, e3 = l.Get(127)
	if e1 != api.ErrForm || e2 != api.ErrForm || l.Turn() != api.ErrForm || e3 != api.OK {
		t.Error(e1, e2, e3)
	}
	m.Set(r, 0, math.MaxUint64)
	if _, e := l.All(); e != api.ErrArg {
		t.Error(e)
	}
	for _, at := range []int{-1, math.MaxInt, math.MinInt, 3, 40} {
		x := List{m, r, at}
		x.Len()
		x.Front(1)
		x.Back(1)
		x.Pop()
		x.Get(3)
		x.Set(3, 1)
		x.Turn()
		x.All()
	}
}

// P36.3
func TestBytesUsed(t *testing.T) {
	m, r := region(t, 64)
	l := made(t, m, r)
	g := sample.New(36)
	var want []uint64
	high := 0
	for i := range uint64(1500) {
		k := g.N(7)
		if len(want) >= 100 {
			k = 6
		}
		switch k {
		case 0, 1:
			l.Back(i)
			want = append(want, i)
		case 2:
			l.Front(i)
			want = slices.Insert(want, 0, i)
		case 3:
			l.Turn()
			slices.Reverse(want)
		case 4:
			if len(want) > 0 {
				k := g.N(len(want))
				l.Set(k, i)
				want[k] = i
			}
		default:
			if v, e := l.Pop(); len(want) > 0 && (e != api.OK || v != want[0]) {
				t.Fatal(v, e)
			}
			want = want[min(1, len(want)):]
		}
		high = max(high, len(want))
		x, _ := m.Core().S.T.Get(r)
		if x.E.Len != 32+16*high {
			t.Fatal("bytes", x.E.Len, high)
		}
		if i%50 == 0 {
			has(t, l, want...)
		}
	}
	for i := range 126 - high + len(want) {
		if e := l.Back(1); (e != api.OK) != (len(want)+i >= 126) {
			t.Fatal(i, e)
		}
	}
}

// P36.4, P8 of the whole
func TestApart(t *testing.T) {
	m, r := region(t, 40)
	a := made(t, m, r)
	b := made(t, m, r)
	m.Call(model.Call{Do: model.New, R: r, A: 24})
	c := made(t, m, 2)
	for i := range uint64(30) {
		a.Back(i)
		b.Front(i)
		c.Back(2 * i)
		if i%3 == 0 {
			a.Pop()
			b.Turn()
		}
	}
	x, _ := a.All()
	y, _ := b.All()
	z, _ := c.All()
	if len(x) != 20 || len(y) != 30 || len(z) != 30 || x[0] != 10 || z[29] != 58 {
		t.Error(x, y, z)
	}
	m.Call(model.Call{Do: model.Spawn, A: 1})
	m.Call(model.Call{Do: model.Lend, R: r, A: 1})
	k, _ := m.As(1)
	has(t, List{k, r, a.At}, x...)
	if e := (List{k, r, a.At}).Back(1); e != api.ErrAccess {
		t.Error(e)
	}
}
