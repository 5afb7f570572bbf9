package vec

import (
	"math"
	"reflect"
	"slices"
	"testing"

	"bailiwick/api"
	"bailiwick/handle"
	"bailiwick/mem"
	"bailiwick/model"
	"bailiwick/sample"
)

func made(t *testing.T, pages, quota int) Vec {
	t.Helper()
	m, _ := mem.Open(pages)
	v, e := Make(m, 0, quota)
	if e != api.OK {
		t.Fatal(e)
	}
	return v
}

func has(t *testing.T, v Vec, want ...uint64) {
	t.Helper()
	l, e := v.All()
	n, f := v.Len()
	if !slices.Equal(l, want) || n != len(want) || e != api.OK || f != api.OK {
		t.Error(l, n, e, f, "wanted", want)
	}
}

func count2(v Vec) (int, int) {
	r, _ := v.M.Core().S.T.Get(v.R)
	return r.E.Len, r.E.Pages()
}

// P38.1 to P38.3, and the document's example.
func TestExample(t *testing.T) {
	v := made(t, 64, 64)
	has(t, v)
	for _, x := range []uint64{5, 3, 4} {
		if e := v.Push(x); e != api.OK {
			t.Error(e)
		}
	}
	has(t, v, 5, 3, 4)
	if e := v.Sort(); e != api.OK {
		t.Error(e)
	}
	has(t, v, 3, 4, 5)
	for _, x := range []struct {
		x uint64
		i int
	}{{0, 0}, {3, 0}, {4, 1}, {5, 2}, {6, 3}, {math.MaxUint64, 3}} {
		if i, e := v.Find(x.x); i != x.i || e != api.OK {
			t.Error(x, i, e)
		}
	}
	if x, e := v.Pop(); x != 5 || e != api.OK {
		t.Error(x, e)
	}
	if e := v.Set(1, 9); e != api.OK {
		t.Error(e)
	}
	if x, e := v.Get(1); x != 9 || e != api.OK {
		t.Error(x, e)
	}
	has(t, v, 3, 9)
	for i, w := range []uint64{2, 1, 3, 9, 5} {
		if x, _ := v.M.Word(v.R, 8*i); x != w {
			t.Error("bytes", i, x)
		}
	}
}

// P38.1: Make.
func TestMake(t *testing.T) {
	m, _ := mem.Open(8)
	for _, x := range []struct {
		m     *mem.Mem
		up    handle.Handle
		quota int
		e     api.Errno
	}{{nil, 0, -1, api.ErrNil}, {m, 9, -1, api.ErrArg}, {m, 9, math.MaxUint32 + 1, api.ErrArg}, {m, 0, math.MaxUint32, api.ErrArg}, {m, 0, 65, api.ErrArg}, {m, 9, 4, api.ErrStale}, {m, 0, 3, api.ErrMem}, {m, 0, 0, api.ErrMem}} {
		v, e := Make(x.m, x.up, x.quota)
		if v != (Vec{}) || e != x.e || len(m.Core().S.T.All()) != 0 {
			t.Error(x, e)
		}
	}
	m.Call(model.Call{Do: model.New, A: 1})
	r := m.Core().S.T.All()[0]
	v, e := Make(m, r, 4)
	if x, _ := m.Core().S.T.Get(v.R); e != api.OK || x.Up != r || x.Quota != 4 || x.E.Len != 128 {
		t.Error(e, x)
	}
	if _, e := Make(m, r, 8); e != api.OK {
		t.Error(e)
	}
	before := m.Core().S.T.All()
	if _, e := Make(m, r, 8); e != api.ErrMem || !slices.Equal(m.Core().S.T.All(), before) {
		t.Error("no memory", e)
	}
}

// P38.1 to P38.4: what is refused.
func TestWrong(t *testing.T) {
	v := made(t, 64, 64)
	v.Push(8)
	if e := v.Set(0, 9); e != api.OK {
		t.Error(e)
	}
	if x, e := v.Get(0); x != 9 || e != api.OK {
		t.Error(x, e)
	}
	if x, e := v.Pop(); x != 9 || e != api.OK {
		t.Error(x, e)
	}
	if x, e := v.Pop(); x != 0 || e != api.ErrEmpty {
		t.Error(x, e)
	}
	v.Push(1)
	for _, i := range []int{-1, 1, math.MaxInt, math.MinInt} {
		if x, e := v.Get(i); x != 0 || e != api.ErrRange || v.Set(i, 1) != api.ErrRange {
			t.Error(i, x, e)
		}
	}
	all := func(v Vec, e api.Errno) {
		t.Helper()
		n, e1 := v.Len()
		x, e2 := v.Pop()
		y, e3 := v.Get(-1)
		l, e4 := v.All()
		i, e5 := v.Find(1)
		for _, f := range []api.Errno{e1, e2, e3, e4, e5, v.Push(1), v.Set(-1, 1), v.Sort()} {
			if f != e || n != 0 || x != 0 || y != 0 || l != nil || i != 0 {
				t.Error(f, e)
			}
		}
	}
	for _, x := range [][2]uint64{{255, 16}, {0, 17}, {15, 1}, {0, 0}, {math.MaxUint64, 1}, {1, math.MaxUint64}, {1 << 63, 1 << 63}} {
		v.M.Set(v.R, 0, x[0])
		v.M.Set(v.R, 8, x[1])
		all(v, api.ErrForm)
	}
	v.Clear()
	has(t, v)
	if e := v.Free(); e != api.OK || v.Free() != api.ErrStale || v.Clear() != api.ErrStale {
		t.Error(e)
	}
	all(v, api.ErrStale)
	all(Vec{}, api.ErrNil)
	if (Vec{}).Clear() != api.ErrNil || (Vec{}).Free() != api.ErrNil {
		t.Error("nil")
	}
}

// P38.2, P38.4, P38.5: blocks.
func TestBlocks(t *testing.T) {
	v := made(t, 64, 64)
	for i := range MaxWords {
		if e := v.Push(uint64(i)); e != api.OK {
			t.Fatal(i, e)
		}
		if n, pages := count2(v); n != 128*((i+1+2+15)/16) || pages*32 != n {
			t.Fatal(i, n, pages)
		}
	}
	before := v.M.Core().S
	if e := v.Push(1); e != api.ErrMem || !reflect.DeepEqual(v.M.Core().S, before) {
		t.Error(e)
	}
	for range 200 {
		v.Pop()
	}
	if n, _ := count2(v); n != 2048 {
		t.Error("it has as many as it ever needed", n)
	}
	if e := v.Clear(); e != api.OK {
		t.Error(e)
	}
	has(t, v)
	if n, _ := count2(v); n != 128 || v.M.Core().P.Free().Count()+len(v.M.Core().Queue) != 60 {
		t.Error(n)
	}
	v.Push(3)
	has(t, v, 3)
	v.Free()
	if x := v.M.Core(); x.P.Free().Count()+len(x.Queue) != 64 {
		t.Error("free, or queued")
	}
	small := made(t, 64, 4)
	for i := range uint64(14) {
		small.Push(i)
	}
	if e := small.Push(9); e != api.ErrMem {
		t.Error(e)
	}
	if n, _ := small.Len(); n != 14 {
		t.Error(n)
	}
}

// P38.6, P8 of the whole
func TestSorted(t *testing.T) {
	for seed := range 12 {
		g := sample.New(seed)
		v := made(t, 64, 64)
		var want []uint64
		for range g.N(60) {
			x := uint64(g.N(40))<<(8*g.N(8)) | uint64(g.N(2))
			v.Push(x)
			want = append(want, x)
		}
		if i, e := v.Find(uint64(g.N(100))); e != api.OK || i < 0 || i > len(want) {
			t.Fatal(i, e)
		}
		slices.Sort(want)
		for range 2 {
			v.Sort()
			has(t, v, want...)
		}
		for _, x := range want {
			for _, y := range []uint64{x - 1, x, x + 1} {
				w, _ := slices.BinarySearch(want, y)
				if i, _ := v.Find(y); i != w {
					t.Fatal(i, w)
				}
			}
		}
		v.M.Call(model.Call{Do: model.Spawn, A: 1})
		v.M.Call(model.Call{Do: model.Send, R: v.R, A: 1})
		k, _ := v.M.As(1)
		k.Call(model.Call{Do: model.Recv})
		has(t, Vec{k, v.R}, want...)
		if _, e := v.All(); e != api.ErrAccess {
			t.Fatal(e)
		}
	}
}
