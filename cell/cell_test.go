package cell

import (
	"math"
	"math/rand"
	"reflect"
	"testing"

	"bailiwick/api"
	"bailiwick/forest"
	"bailiwick/handle"
	"bailiwick/table"
)

func made(ups ...handle.Handle) table.Table {
	var x table.Table
	for _, up := range ups {
		x, _, _ = forest.New(x, up, 8)
	}
	return x
}

// P7.1, P7.2, and the document's example.
func TestExample(t *testing.T) {
	x := made(0, 1, 1)
	x, e := Ref(x, 2, 0, 1, false)
	if e != api.OK {
		t.Error(e)
	}
	for _, c := range []struct {
		r, to handle.Handle
		cell  int
	}{{2, 3, 1}, {1, 2, 0}} {
		if y, e := Ref(x, c.r, c.cell, c.to, false); e != api.ErrAccess || !reflect.DeepEqual(x, y) {
			t.Error(c, e)
		}
	}
	if h, e := Deref(x, 2, 0); h != 1 || e != api.OK {
		t.Error(h, e)
	}
	if h, e := Deref(x, 2, 1); h != 0 || e != api.ErrEmpty {
		t.Error(h, e)
	}
}

// P7.1, P7.2: firm cells, empty ones, and what is refused, in order.
func TestWrong(t *testing.T) {
	x := made(0, 1, 0)
	for _, c := range []struct {
		r    handle.Handle
		cell int
		to   handle.Handle
		firm bool
		e    api.Errno
	}{
		{9, -1, 9, false, api.ErrStale}, {0, 0, 1, true, api.ErrStale}, {1, 8, 9, true, api.ErrStale}, {2, 8, 3, false, api.ErrArg},
		{2, -1, 1, true, api.ErrArg}, {2, math.MaxInt, 0, false, api.ErrArg}, {2, 7, 3, false, api.ErrAccess},
		{2, 7, 3, true, api.OK}, {2, 7, 2, false, api.OK}, {2, 7, 0, false, api.OK},
	} {
		y, e := Ref(x, c.r, c.cell, c.to, c.firm)
		if e != c.e || e != api.OK && !reflect.DeepEqual(x, y) {
			t.Error(c, e)
		}
		if r, _ := y.Get(2); e == api.OK && r.Cells[7] != c.to {
			t.Error(c, r)
		}
	}
	x, _ = Ref(x, 1, 0, 3, true)
	x, _, _ = forest.Fell(x, 3)
	for _, c := range []struct {
		r    handle.Handle
		cell int
		e    api.Errno
	}{{3, -1, api.ErrStale}, {1, -1, api.ErrArg}, {1, 8, api.ErrArg}, {1, math.MinInt, api.ErrArg}, {1, 1, api.ErrEmpty}, {1, 0, api.ErrStale}} {
		if h, e := Deref(x, c.r, c.cell); h != 0 || e != c.e {
			t.Error(c, h, e)
		}
	}
}

// P7.3: what was never firm is never stale.
func TestNeverStale(t *testing.T) {
	g := rand.New(rand.NewSource(7))
	var x table.Table
	for range 4000 {
		l := append(x.All(), 0)
		h, up := l[g.Intn(len(l))], l[g.Intn(len(l))]
		switch g.Intn(8) {
		case 0:
			x, _ = forest.Cut(x, h)
		case 1:
			x, _ = forest.Graft(x, h, up)
		case 2:
			if g.Intn(3) == 0 {
				x, _, _ = forest.Fell(x, h)
			}
		case 3, 4, 5:
			x, _ = Ref(x, h, g.Intn(9)-1, up, false)
		default:
			x, _, _ = forest.New(x, up, 1)
		}
		for _, r := range x.All() {
			for i := range api.MaxCells {
				to, e := Deref(x, r, i)
				if e != api.ErrEmpty && (e != api.OK || !forest.Outlives(x, to, r)) {
					t.Fatal(r, i, to, e)
				}
			}
		}
	}
}
