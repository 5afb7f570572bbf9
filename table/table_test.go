package table

import (
	"math"
	"math/rand"
	"reflect"
	"slices"
	"testing"

	"bailiwick/api"
	"bailiwick/extent"
	"bailiwick/handle"
	"bailiwick/runs"
)

func want(t *testing.T, what string, got, e api.Errno) {
	t.Helper()
	if got != e {
		t.Error(what, got, e)
	}
}

// P5.1, P5.2, and the document's example.
func TestExample(t *testing.T) {
	var x Table
	x, a, e := x.New(0, 4)
	want(t, "new", e, api.OK)
	x, b, e := x.New(1, 2)
	want(t, "new", e, api.OK)
	if a != 1 || b != 2 {
		t.Error(a, b)
	}
	y, e := x.Raise(1, 2)
	want(t, "raise", e, api.ErrState)
	if !reflect.DeepEqual(x, y) {
		t.Error("changed")
	}
	if r, _ := x.Get(2); r.Up != 1 || r.Quota != 2 || r.E.Len != 0 || r.Cells != [8]handle.Handle{} {
		t.Error(r)
	}
	x, e = x.Drop(1)
	want(t, "drop", e, api.OK)
	if r, e := x.Get(2); r.Up != 0 || e != api.OK {
		t.Error(r, e)
	}
	if x.Good(1) || !x.Good(2) || !slices.Equal(x.All(), []handle.Handle{2}) {
		t.Error(x.All())
	}
	x, c, _ := x.New(2, 0)
	if r, _ := x.Get(2); c != 257 || r.Up != 0 {
		t.Error("the slot's new region is not above", c, r)
	}
}

// P5.1, P5.2: what is refused.
func TestWrong(t *testing.T) {
	var x Table
	x, _, _ = x.New(0, 64)
	for _, h := range []handle.Handle{0, 2, 257, math.MaxUint32} {
		_, e := x.Drop(h)
		want(t, "drop", e, api.ErrStale)
		r, e := x.Get(h)
		want(t, "get", e, api.ErrStale)
		if !reflect.DeepEqual(r, Region{}) {
			t.Error(r)
		}
		_, e = x.Set(h, Region{Quota: -1})
		want(t, "set", e, api.ErrStale)
		_, e = x.Raise(h, 0)
		want(t, "raise", e, api.ErrStale)
		if h != 0 {
			_, n, e := x.New(h, -1)
			want(t, "new", e, api.ErrStale)
			_, f := x.Raise(1, h)
			want(t, "raise", f, api.ErrStale)
			if n != 0 {
				t.Error(n)
			}
		}
	}
	for _, q := range []int{-1, 65, math.MaxInt, math.MinInt} {
		_, h, e := x.New(0, q)
		want(t, "new", e, api.ErrArg)
		if h != 0 {
			t.Error(h)
		}
		_, e = x.Set(1, Region{Quota: q})
		want(t, "set", e, api.ErrArg)
	}
	_, e := x.Set(1, Region{E: extent.Extent{Len: 1}})
	want(t, "set", e, api.ErrArg)
	_, e = x.Raise(1, 1)
	want(t, "raise", e, api.ErrState)
	for range 31 {
		x, _, e = x.New(1, 0)
		want(t, "new", e, api.OK)
	}
	_, _, e = x.New(1, 65)
	want(t, "new", e, api.ErrArg)
	_, h, e := x.New(1, 1)
	want(t, "new", e, api.ErrFull)
	if h != 0 {
		t.Error(h)
	}
}

// P5.2: what is set is told, Up stays, and nothing is shared.
func TestSet(t *testing.T) {
	var x Table
	x, _, _ = x.New(0, 4)
	x, _, _ = x.New(1, 4)
	r := Region{Up: 9, Quota: 3, E: extent.Extent{Runs: []runs.Run{{At: 2, N: 2}}, Len: 5}, Cells: [8]handle.Handle{1, 77}}
	y, e := x.Set(2, r)
	want(t, "set", e, api.OK)
	r.E.Runs[0].At = 50
	got, _ := y.Get(2)
	if got.Up != 1 || got.Quota != 3 || got.E.Len != 5 || got.Cells != r.Cells || got.E.Runs[0] != (runs.Run{At: 2, N: 2}) {
		t.Error(got)
	}
	got.E.Runs[0].At = 51
	if g, _ := y.Get(2); g.E.Runs[0].At != 2 {
		t.Error("shared")
	}
	if g, _ := x.Get(2); g.Quota != 4 {
		t.Error("the other table changed")
	}
	y, _ = y.Raise(2, 0)
	if g, _ := y.Get(2); g.Up != 0 {
		t.Error("raise to none")
	}
}

// P5.1, P5.3
func TestAged(t *testing.T) {
	x := Aged([]uint32{handle.Last, 1})
	x, a, _ := x.New(0, 0)
	x, b, _ := x.New(a, 0)
	x, _ = x.Drop(a)
	x, c, _ := x.New(0, 0)
	if a != handle.Last*256+1 || b != 258 || c != 3 || x.Good(a) || !slices.Equal(x.All(), []handle.Handle{258, 3}) {
		t.Error(a, b, c, x.All())
	}
}

// P5.4: nothing is above itself, and others stay as they are.
func TestNoRings(t *testing.T) {
	g := rand.New(rand.NewSource(5))
	var x Table
	for range 3000 {
		before := x
		var only handle.Handle
		l := x.All()
		pick := func() handle.Handle {
			if len(l) == 0 || g.Intn(9) == 0 {
				return handle.Handle(g.Intn(600))
			}
			return l[g.Intn(len(l))]
		}
		e := api.OK
		switch g.Intn(4) {
		case 0:
			x, only, e = x.New(pick(), g.Intn(70))
		case 1:
			only = pick()
			x, e = x.Raise(only, pick())
		case 2:
			only = pick()
			if g.Intn(3) == 0 {
				x, e = x.Drop(only)
			}
		case 3:
			only = pick()
			x, e = x.Set(only, Region{Quota: g.Intn(66)})
		}
		if e != api.OK && !reflect.DeepEqual(x, before) {
			t.Fatal("changed", e)
		}
		for _, h := range x.All() {
			r, _ := x.Get(h)
			was, we := before.Get(h)
			if h != only && x.Good(was.Up) && (we != api.OK || !reflect.DeepEqual(r, was)) {
				t.Fatal("another one changed", h, only)
			}
			n := 0
			for up := r.Up; up != 0; n++ {
				u, _ := x.Get(up)
				up = u.Up
				if n > api.MaxRegions {
					t.Fatal("a ring")
				}
			}
		}
	}
}
