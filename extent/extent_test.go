package extent

import (
	"math"
	"math/rand"
	"slices"
	"testing"

	"bailiwick/api"
	"bailiwick/runs"
)

func of(used int, l ...runs.Run) Extent { return Extent{l, used} }

// P4.1
func TestMay(t *testing.T) {
	for _, x := range []struct {
		e     Extent
		may   bool
		pages int
	}{
		{of(0), true, 0},
		{of(1), false, 0},
		{of(-1), false, 0},
		{of(32, runs.Run{At: 0, N: 1}), true, 1},
		{of(33, runs.Run{At: 0, N: 1}), false, 1},
		{of(0, runs.Run{At: 5, N: 2}, runs.Run{At: 4, N: 1}), true, 3},
		{of(0, runs.Run{At: 4, N: 2}, runs.Run{At: 5, N: 1}), false, 3},
		{of(0, runs.Run{At: 4, N: 2}, runs.Run{At: 4, N: 2}), false, 4},
		{of(0, runs.Run{At: 63, N: 1}), true, 1},
		{of(0, runs.Run{At: 63, N: 2}), false, 2},
		{of(0, runs.Run{At: -1, N: 2}), false, 2},
		{of(0, runs.Run{At: 3, N: 0}), false, 0},
		{of(0, runs.Run{At: 1, N: math.MaxInt}), false, math.MaxInt},
		{of(2048, runs.Run{At: 0, N: 64}), true, 64},
	} {
		if x.e.May() != x.may || x.e.Pages() != x.pages {
			t.Error(x)
		}
	}
	for _, x := range []struct {
		size, align, n int
	}{{1, 1, 1}, {32, 8, 1}, {33, 2, 2}, {65, 1, 3}, {128, 4, 4}, {129, 1, 0}, {0, 1, 0}, {-1, 1, 0}, {8, 3, 0}, {8, 0, 0}, {8, 16, 0}, {8, -1, 0}, {math.MaxInt, 1, 0}} {
		if n, ok := Needs(x.size, x.align); n != x.n || ok != (x.n > 0) {
			t.Error(x, n, ok)
		}
	}
}

// P4.2, P4.4, and the document's example.
func TestFits(t *testing.T) {
	e := of(3, runs.Run{At: 4, N: 2})
	for _, x := range []struct {
		size, align, at int
		ok              bool
	}{{4, 4, 4, true}, {61, 4, 0, false}, {60, 4, 4, true}, {61, 1, 3, true}, {62, 1, 0, false}, {8, 8, 8, true}, {1, 2, 4, true}, {0, 1, 0, false}, {129, 1, 0, false}, {4, 5, 0, false}, {math.MinInt, 1, 0, false}} {
		at, ok := e.Fits(x.size, x.align)
		f, put, is := e.Put(x.size, x.align)
		if at != x.at || ok != x.ok || put != at || is != ok {
			t.Error(x, at, ok)
		}
		if ok && f.Len != x.at+x.size || !ok && f.Len != 3 || !slices.Equal(f.Runs, e.Runs) {
			t.Error(x, f)
		}
		f.Runs[0].At = 9
	}
	if e.Runs[0].At != 4 || e.Len != 3 {
		t.Error("changed", e)
	}
	for _, x := range []struct{ at, place int }{{0, 128}, {33, 161}, {63, 191}} {
		if p, ok := e.Place(x.at); p != x.place || !ok {
			t.Error(x, p)
		}
	}
	for _, at := range []int{-1, 64, math.MaxInt, math.MinInt} {
		if p, ok := e.Place(at); p != 0 || ok {
			t.Error(at, p)
		}
	}
	if _, ok := (Extent{}).Fits(1, 1); ok {
		t.Error("empty")
	}
}

// P4.3, P4.5: the first example of the whole, too.
func TestGrow(t *testing.T) {
	e := of(0).Grow(runs.Run{At: 7, N: 1})
	e, at, _ := e.Put(30, 1)
	if _, _, ok := e.Put(8, 1); at != 0 || ok {
		t.Error("fits")
	}
	f := e.Grow(runs.Run{At: 2, N: 1})
	if f.Len != 32 || !slices.Equal(f.Runs, []runs.Run{{At: 7, N: 1}, {At: 2, N: 1}}) || e.Len != 30 || len(e.Runs) != 1 {
		t.Error(f, e)
	}
	f, at, ok := f.Put(8, 1)
	if p, _ := f.Place(at); at != 32 || !ok || p != 64 {
		t.Error(at, ok, p)
	}
}

// P4.5
func TestApart(t *testing.T) {
	g := rand.New(rand.NewSource(4))
	for range 200 {
		var e Extent
		next, end := 0, 0
		for range 12 {
			size, align := 1+g.Intn(MaxObject), 1<<g.Intn(4)
			f, at, ok := e.Put(size, align)
			if !ok {
				n, _ := Needs(size, align)
				if next+n > api.MaxPages {
					break
				}
				f, at, ok = e.Grow(runs.Run{At: next, N: n}).Put(size, align)
				next += n + g.Intn(2)
			}
			if !ok || at < end || at%align != 0 || !f.May() {
				t.Fatal(size, align, at, ok)
			}
			e, end = f, at+size
		}
		seen := map[int]bool{}
		for at := range e.Pages() * api.Page {
			p, ok := e.Place(at)
			if !ok || seen[p] {
				t.Fatal("place", at)
			}
			seen[p] = true
		}
	}
}
