package own

import (
	"math"
	"math/rand"
	"slices"
	"testing"

	"bailiwick/api"
	"bailiwick/forest"
	"bailiwick/handle"
	"bailiwick/table"
)

type hs = []handle.Handle

func made(ups ...handle.Handle) table.Table {
	var x table.Table
	for _, up := range ups {
		x, _, _ = forest.New(x, up, 8)
	}
	return x
}

// P8.1 to P8.3, and the document's example.
func TestExample(t *testing.T) {
	x := made(0, 1)
	var o Owns
	if o.Of(x, 1) != (Own{}) {
		t.Error("what is new is nobody's")
	}
	o, _ = o.Give(x, 1, 3)
	if o.Of(x, 2) != (Own{Kind: Owned, Task: 3}) {
		t.Error(o.Of(x, 2))
	}
	o, _ = o.Freeze(x, 1, 3)
	o, e := o.Hold(x, 1, 0)
	if e != api.OK || o.Of(x, 2) != (Own{Kind: Frozen, Holders: 9}) {
		t.Error(o.Of(x, 2), e)
	}
	o, n, e := o.Drop(x, 1, 3)
	if n != 1 || e != api.OK || o.Of(x, 1) != (Own{Kind: Frozen, Holders: 1}) {
		t.Error(n, e)
	}
	o, n, _ = o.Drop(x, 1, 0)
	if n != 0 || o.Of(x, 1) != (Own{Kind: Frozen}) {
		t.Error(n)
	}
	o, e = o.Fly(x, 1)
	if e != api.OK || o.Of(x, 2) != (Own{Kind: Flight}) {
		t.Error(e)
	}
}

// P8.1: slots that are used again, and roots that come back.
func TestOf(t *testing.T) {
	x := made(0, 0)
	var o Owns
	o, _ = o.Give(x, 1, 2)
	o, _ = o.Give(x, 2, 5)
	y, _ := forest.Graft(x, 1, 2)
	if o.Of(y, 1).Task != 5 {
		t.Error("under another one")
	}
	y, _ = forest.Cut(y, 1)
	if o.Of(y, 1).Task != 2 {
		t.Error("said again")
	}
	y, _, _ = forest.Fell(y, 1)
	y, h, _ := forest.New(y, 0, 1)
	if h != 257 || o.Of(y, h) != (Own{}) || o.Of(y, 1) != (Own{}) || o.Of(y, 0) != (Own{}) || o.Of(y, math.MaxUint32) != (Own{}) {
		t.Error("said of another one")
	}
}

// P8.2, P8.3: what is refused, in order.
func TestWrong(t *testing.T) {
	x := made(0, 1, 0)
	var o Owns
	o, _ = o.Freeze(x, 1, 3)
	o, _ = o.Give(x, 3, 0)
	for _, c := range []struct {
		h    handle.Handle
		task int
		give api.Errno
		hold api.Errno
		drop api.Errno
	}{
		{9, -1, api.ErrStale, api.ErrStale, api.ErrStale}, {0, 3, api.ErrStale, api.ErrStale, api.ErrStale},
		{2, -1, api.ErrState, api.ErrState, api.ErrState}, {1, -1, api.ErrArg, api.ErrArg, api.ErrArg}, {1, 8, api.ErrArg, api.ErrArg, api.ErrArg},
		{3, 8, api.ErrArg, api.ErrState, api.ErrState}, {1, math.MaxInt, api.ErrArg, api.ErrArg, api.ErrArg},
		{3, 0, api.OK, api.ErrState, api.ErrState}, {1, 3, api.OK, api.ErrFull, api.OK}, {1, 4, api.OK, api.OK, api.ErrAccess},
	} {
		a, e1 := o.Give(x, c.h, c.task)
		b, e2 := o.Freeze(x, c.h, c.task)
		d, e3 := o.Hold(x, c.h, c.task)
		f, n, e4 := o.Drop(x, c.h, c.task)
		if e1 != c.give || e2 != c.give || e3 != c.hold || e4 != c.drop {
			t.Error(c, e1, e2, e3, e4)
		}
		if e1 != api.OK && a != o || e2 != api.OK && b != o || e3 != api.OK && d != o || e4 != api.OK && (f != o || n != 0) {
			t.Error("changed", c)
		}
	}
	for _, h := range (hs{0, 9}) {
		if f, e := o.Fly(x, h); e != api.ErrStale || f != o {
			t.Error(e)
		}
	}
	if _, e := o.Fly(x, 2); e != api.ErrState {
		t.Error(e)
	}
}

// P8.4
func TestRoots(t *testing.T) {
	x := made(0, 1, 0, 0, 0)
	var o Owns
	o, _ = o.Give(x, 4, 2)
	o, _ = o.Give(x, 1, 2)
	o, _ = o.Freeze(x, 5, 2)
	o, _ = o.Freeze(x, 3, 2)
	o, _ = o.Hold(x, 3, 7)
	if !slices.Equal(o.Roots(x, 2), hs{1, 4}) || !slices.Equal(o.Held(x, 2), hs{3, 5}) || !slices.Equal(o.Held(x, 7), hs{3}) {
		t.Error(o.Roots(x, 2), o.Held(x, 2))
	}
	for _, task := range []int{-1, 0, 8, 256 + 2, math.MinInt} {
		if o.Roots(x, task) != nil || o.Held(x, task) != nil {
			t.Error(task)
		}
	}
}

// P8.5: a tree is one task's at most, and all its regions say the same.
func TestOneTask(t *testing.T) {
	g := rand.New(rand.NewSource(8))
	var x table.Table
	var o Owns
	for range 3000 {
		l := append(x.All(), 0)
		h, up, task := l[g.Intn(len(l))], l[g.Intn(len(l))], g.Intn(9)
		switch g.Intn(9) {
		case 0:
			o, _ = o.Give(x, h, task)
		case 1:
			o, _ = o.Fly(x, h)
		case 2:
			o, _ = o.Freeze(x, h, task)
		case 3:
			o, _ = o.Hold(x, h, task)
		case 4:
			o, _, _ = o.Drop(x, h, task)
		case 5:
			x, _ = forest.Cut(x, h)
		case 6:
			x, _ = forest.Graft(x, h, up)
		case 7:
			x, _, _ = forest.Fell(x, h)
		default:
			x, _, _ = forest.New(x, up, 1)
		}
		for _, r := range x.All() {
			n := 0
			for task := range api.MaxTasks {
				if slices.Contains(o.Roots(x, task), forest.Root(x, r)) {
					n++
				}
			}
			of := o.Of(x, r)
			if of != o.Of(x, forest.Root(x, r)) || n > 1 || (of.Kind == Owned) != (n == 1) || of.Kind != Frozen && of.Holders != 0 || of.Kind != Owned && of.Task != 0 {
				t.Fatal(r, of)
			}
		}
	}
}
