package forest

import (
	"math"
	"math/rand"
	"reflect"
	"slices"
	"testing"

	"bailiwick/api"
	"bailiwick/handle"
	"bailiwick/table"
)

type hs = []handle.Handle

// made is a table whose regions, from 1 on, are below these.
func made(t *testing.T, ups ...handle.Handle) table.Table {
	t.Helper()
	var x table.Table
	for _, up := range ups {
		next, _, e := New(x, up, 8)
		if e != api.OK {
			t.Fatal(e)
		}
		x = next
	}
	return x
}

func cells(x table.Table, h handle.Handle, to ...handle.Handle) table.Table {
	r, _ := x.Get(h)
	copy(r.Cells[:], to)
	y, _ := x.Set(h, r)
	return y
}

// P6.2, P6.4, and the document's example.
func TestExample(t *testing.T) {
	x := made(t, 0, 1, 2, 1)
	if !slices.Equal(Under(x, 1), hs{1, 2, 3, 4}) || Depth(x, 3) != 3 || Root(x, 3) != 1 || !Outlives(x, 1, 3) {
		t.Error(Under(x, 1))
	}
	if y, e := Graft(x, 1, 3); e != api.ErrState || !reflect.DeepEqual(x, y) {
		t.Error(e)
	}
	if !slices.Equal(Kids(x, 1), hs{2, 4}) || Kids(x, 4) != nil || Outlives(x, 3, 1) || !Outlives(x, 3, 3) || Outlives(x, 4, 3) || Depth(x, 1) != 1 {
		t.Error(Kids(x, 1))
	}
	for _, h := range (hs{0, 5, 257, math.MaxUint32}) {
		if Kids(x, h) != nil || Under(x, h) != nil || Depth(x, h) != 0 || Root(x, h) != 0 || Outlives(x, h, h) || Outlives(x, h, 1) || Outlives(x, 1, h) {
			t.Error(h)
		}
	}
}

// P6.1
func TestNew(t *testing.T) {
	x := made(t, 0, 1, 2, 3, 4, 5)
	if y, h, e := New(x, 6, 1); e != api.ErrLimit || h != 0 || !reflect.DeepEqual(x, y) {
		t.Error(h, e)
	}
	if _, _, e := New(x, 6, 65); e != api.ErrArg {
		t.Error(e)
	}
	if _, _, e := New(x, 7, 65); e != api.ErrStale {
		t.Error(e)
	}
	for range 26 {
		x, _, _ = New(x, 5, 0)
	}
	if _, _, e := New(x, 5, 0); e != api.ErrFull {
		t.Error(e)
	}
	if _, _, e := New(x, 6, 0); e != api.ErrLimit {
		t.Error("a depth that does not go is told ahead of a full table", e)
	}
}

// P6.3
func TestCut(t *testing.T) {
	x := made(t, 0, 1, 2, 3, 1)
	x = cells(x, 3, 1, 2, 3, 5, 900)
	x = cells(x, 4, 3, 1)
	x = cells(x, 5, 1)
	y, e := Cut(x, 3)
	r3, _ := y.Get(3)
	r4, _ := y.Get(4)
	r5, _ := y.Get(5)
	if e != api.OK || r3.Up != 0 || r3.Cells != [8]handle.Handle{0, 0, 3, 5, 900} || r4.Cells != [8]handle.Handle{3, 0} || r5.Cells[0] != 1 {
		t.Error(e, r3, r4, r5)
	}
	if !slices.Equal(Under(y, 3), hs{3, 4}) || !slices.Equal(Under(y, 1), hs{1, 2, 5}) {
		t.Error(Under(y, 3), Under(y, 1))
	}
	if z, e := Cut(y, 3); e != api.OK || !reflect.DeepEqual(z, y) {
		t.Error("a root that is cut", e)
	}
	for _, h := range (hs{0, 9}) {
		if _, e := Cut(x, h); e != api.ErrStale {
			t.Error(e)
		}
	}
}

// P6.4
func TestGraft(t *testing.T) {
	x := made(t, 0, 1, 2, 0, 4, 5, 6)
	for _, c := range []struct {
		h, up handle.Handle
		e     api.Errno
	}{{0, 1, api.ErrStale}, {1, 0, api.ErrStale}, {9, 9, api.ErrStale}, {1, 1, api.ErrState}, {2, 4, api.ErrState}, {4, 7, api.ErrState}, {4, 3, api.ErrLimit}, {1, 7, api.ErrLimit}, {4, 2, api.OK}, {1, 6, api.OK}} {
		y, e := Graft(x, c.h, c.up)
		if e != c.e || e != api.OK && !reflect.DeepEqual(x, y) || e == api.OK && !slices.Contains(Kids(y, c.up), c.h) {
			t.Error(c, e)
		}
	}
}

// P6.5
func TestFell(t *testing.T) {
	x := made(t, 0, 1, 2, 1)
	y, gone, e := Fell(x, 2)
	if e != api.OK || !slices.Equal(gone, hs{2, 3}) || !slices.Equal(y.All(), hs{1, 4}) {
		t.Error(gone, e)
	}
	if z, gone, e := Fell(y, 2); e != api.ErrStale || gone != nil || !reflect.DeepEqual(z, y) {
		t.Error(gone, e)
	}
}

// P6.6
func TestRandom(t *testing.T) {
	g := rand.New(rand.NewSource(6))
	var x table.Table
	for range 1500 {
		l := append(x.All(), 0, 3)
		h, up := l[g.Intn(len(l))], l[g.Intn(len(l))]
		switch g.Intn(6) {
		case 0:
			x, _ = Cut(x, h)
		case 1, 2:
			x, _ = Graft(x, h, up)
		case 3:
			if g.Intn(4) == 0 {
				x, _, _ = Fell(x, h)
			}
		default:
			x, _, _ = New(x, up, 1)
		}
		n := 0
		for _, r := range x.All() {
			if Depth(x, r) > api.MaxDepth || !slices.Contains(Under(x, Root(x, r)), r) {
				t.Fatal("depth", r)
			}
			if Root(x, r) == r {
				n += len(Under(x, r))
			}
			if a := l[g.Intn(len(l))]; Outlives(x, a, r) != slices.Contains(Under(x, a), r) {
				t.Fatal("outlives", a, r)
			}
		}
		if n != len(x.All()) {
			t.Fatal("each once", n)
		}
	}
}
