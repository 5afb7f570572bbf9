package dict

import (
	"maps"
	"math"
	"slices"
	"testing"

	"bailiwick/api"
	"bailiwick/handle"
	"bailiwick/mem"
	"bailiwick/model"
	"bailiwick/sample"
)

func region(t *testing.T, quota uint32) (*mem.Mem, handle.Handle) {
	t.Helper()
	m, _ := mem.Open(64)
	r := m.Call(model.Call{Do: model.New, A: quota})
	if r.E != api.OK {
		t.Fatal(r)
	}
	return m, r.W
}

func made(t *testing.T, m *mem.Mem, r handle.Handle) Dict {
	t.Helper()
	d, e := Make(m, r)
	if e != api.OK {
		t.Fatal(e)
	}
	return d
}

func put(t *testing.T, d Dict, key, val uint64, had bool) {
	t.Helper()
	if h, e := d.Put(key, val); h != had || e != api.OK {
		t.Error("put", key, h, e)
	}
}

func has(t *testing.T, d Dict, want ...Pair) {
	t.Helper()
	l, e := d.All()
	n, f := d.Len()
	if !slices.Equal(l, want) || n != len(want) || e != api.OK || f != api.OK {
		t.Error(l, n, e, f, "wanted", want)
	}
}

// P37.1, P37.2, P37.3, and the document's example.
func TestExample(t *testing.T) {
	f := uint64(Factor)
	if Head != 24 || Node != 32 || MaxNodes != 64 {
		t.Error("numbers")
	}
	if Rank(0) != 0 || Rank(1) != Factor || Rank(1<<33) != uint64(1<<33+1)*f {
		t.Error(Rank(1 << 33))
	}
	m, r := region(t, 8)
	d := made(t, m, r)
	has(t, d)
	if n, e := d.High(); n != 0 || e != api.OK {
		t.Error(n, e)
	}
	put(t, d, 5, 1, false)
	put(t, d, 3, 2, false)
	put(t, d, 5, 4, true)
	has(t, d, Pair{3, 2}, Pair{5, 4})
	for _, x := range []struct {
		key  uint64
		p    Pair
		from bool
		get  bool
	}{{0, Pair{3, 2}, true, false}, {3, Pair{3, 2}, true, true}, {4, Pair{5, 4}, true, false}, {5, Pair{5, 4}, true, true}, {6, Pair{}, false, false}, {math.MaxUint64, Pair{}, false, false}} {
		p, ok, e := d.From(x.key)
		v, is, f := d.Get(x.key)
		if p != x.p || ok != x.from || is != x.get || is && v != p.Val || !is && v != 0 || e != api.OK || f != api.OK {
			t.Error(x, p, ok, v, is)
		}
	}
	if n, _ := d.High(); n != 2 {
		t.Error(n)
	}
	if h, e := d.Del(4); h || e != api.OK {
		t.Error(h, e)
	}
	if h, e := d.Del(5); !h || e != api.OK {
		t.Error(h, e)
	}
	has(t, d, Pair{3, 2})
}

// P37.1, P37.2: the bytes.
func TestBytes(t *testing.T) {
	m, r := region(t, 8)
	d := made(t, m, r)
	put(t, d, 5, 50, false)
	put(t, d, 3, 30, false)
	top, low := uint64(33), uint64(65)
	side := 48 // the left link of 5
	if Rank(3) > Rank(5) {
		top, low, side = 65, 33, 88
	}
	word := func(at int, want uint64) {
		t.Helper()
		if v, _ := m.Word(r, at); v != want {
			t.Error(at, v, want)
		}
	}
	word(0, top)
	word(8, 2)
	word(16, 0)
	word(32, 5)
	word(40, 50)
	word(64, 3)
	word(72, 30)
	word(side, low)
	d.Del(5)
	word(0, 65)
	word(16, 33)
	d.Del(3)
	word(0, 0)
	word(16, 65)
	word(80, 33)
	put(t, d, 9, 1, false)
	word(64, 9)
	word(16, 33)
}

// P37.1 to P37.3: what is refused.
func TestWrong(t *testing.T) {
	m, r := region(t, 2)
	d := made(t, m, r)
	put(t, d, 1, 1, false)
	if h, e := d.Put(2, 2); h || e != api.ErrMem {
		t.Error(e)
	}
	has(t, d, Pair{1, 1})
	if x, e := Make(m, r); x != (Dict{}) || e != api.ErrMem {
		t.Error(e)
	}
	m.Call(model.Call{Do: model.Delete, R: r})
	var n Dict
	_, e := Make(nil, 1)
	for _, x := range []struct {
		d Dict
		e api.Errno
	}{{d, api.ErrStale}, {n, api.ErrNil}, {Dict{m, 9, 8}, api.ErrStale}, {Dict{m, 9, -100}, api.ErrArg}} {
		n, e1 := x.d.Len()
		v, ok, e2 := x.d.Get(1)
		had, e3 := x.d.Put(1, 1)
		was, e4 := x.d.Del(1)
		l, e5 := x.d.All()
		p, is, e6 := x.d.From(1)
		h, e7 := x.d.High()
		for _, f := range []api.Errno{e1, e2, e3, e4, e5, e6, e7} {
			if f != x.e {
				t.Error(x, f)
			}
		}
		if n != 0 || v != 0 || ok || had || was || l != nil || p != (Pair{}) || is || h != 0 || e != api.ErrNil {
			t.Error(x, "beside an error")
		}
	}
}

// P37.1 to P37.3: maps that are none end.
func TestForm(t *testing.T) {
	m, r := region(t, 8)
	d := made(t, m, r)
	put(t, d, 5, 1, false)
	m.Set(r, 48, 33)
	m.Set(r, 56, 33)
	_, _, e1 := d.Get(1)
	_, e2 := d.Put(1, 1)
	_, e3 := d.Del(9)
	_, e4 := d.All()
	_, _, e5 := d.From(1)
	_, e6 := d.High()
	if !slices.Equal([]api.Errno{e1, e2, e3, e4, e5, e6}, slices.Repeat([]api.Errno{api.ErrForm}, 6)) {
		t.Error(e1, e2, e3, e4, e5, e6)
	}
	d.Del(5)
	for _, at := range []int{-1, math.MaxInt, math.MinInt, 3, 40} {
		x := Dict{m, r, at}
		x.Len()
		x.Get(1)
		x.Put(1, 1)
		x.Del(1)
		x.All()
		x.From(1)
		x.High()
	}
	m.Set(r, 0, math.MaxUint64)
	if _, e := d.All(); e == api.OK {
		t.Error(e)
	}
}

// P37.4, P37.5, P8 of the whole
func TestOneShape(t *testing.T) {
	for seed := range 2 {
		g := sample.New(seed)
		m, r := region(t, 64)
		d := made(t, m, r)
		want := map[uint64]uint64{}
		high := 0
		for i := range uint64(250) {
			key := uint64(g.N(90)) << (8 * g.N(3))
			_, is := want[key]
			if g.N(5) < 3 && len(want) < 60 {
				put(t, d, key, i, is)
				want[key] = i
			} else {
				if h, e := d.Del(key); h != is || e != api.OK {
					t.Fatal(h, e)
				}
				delete(want, key)
			}
			high = max(high, len(want))
			x, _ := m.Core().S.T.Get(r)
			if high > 0 && x.E.Len != 32+32*high {
				t.Fatal("bytes", x.E.Len, high)
			}
			if i%25 == 0 {
				alike(t, m, d, want)
			}
		}
	}
}

// alike holds a map against one of the same keys, that were put in order.
func alike(t *testing.T, m *mem.Mem, d Dict, want map[uint64]uint64) {
	other, _ := mem.Open(64)
	other.Call(model.Call{Do: model.New, A: 64})
	x := made(t, other, 1)
	var l []Pair
	for _, key := range slices.Sorted(maps.Keys(want)) {
		put(t, x, key, want[key], false)
		l = append(l, Pair{key, want[key]})
	}
	has(t, d, l...)
	a, _ := d.High()
	b, _ := x.High()
	if a != b || shape(d) != shape(x) {
		t.Fatal("shape", a, b)
	}
}

// shape tells which node is above which.
func shape(d Dict) string {
	var walk func(link uint64) string
	walk = func(link uint64) string {
		if link == 0 {
			return "."
		}
		at := int(link - 1)
		key, _ := d.M.Word(d.R, at)
		l, _ := d.M.Word(d.R, at+16)
		r, _ := d.M.Word(d.R, at+24)
		for _, below := range []uint64{l, r} {
			if below != 0 {
				k, _ := d.M.Word(d.R, int(below-1))
				if Rank(k) > Rank(key) {
					return "not above"
				}
			}
		}
		return "(" + walk(l) + string(rune(key%1000)) + walk(r) + ")"
	}
	t, _ := d.M.Word(d.R, d.At)
	return walk(t)
}
