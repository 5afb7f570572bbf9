package model_test

import (
	"math"
	"reflect"
	"slices"
	"testing"

	"bailiwick/access"
	"bailiwick/api"
	"bailiwick/extent"
	"bailiwick/forest"
	"bailiwick/handle"
	"bailiwick/mail"
	. "bailiwick/model"
	"bailiwick/own"
	"bailiwick/runs"
	"bailiwick/sample"
	"bailiwick/table"
)

// world does calls, and holds what they answer against what is wanted.
type world struct {
	t *testing.T
	s State
}

func begin(t *testing.T) *world {
	w := &world{t, Begin()}
	w.ok(0, Call{Do: Spawn, A: 1})
	w.ok(0, Call{Do: Spawn, A: 2})
	return w
}

func (w *world) run(task int, c Call, run runs.Run) (Result, []runs.Run) {
	before := w.s
	next, r, back := w.s.Do(task, c, run)
	if r.E != api.OK && (!reflect.DeepEqual(next, before) || back != nil || r.V != 0 || r.W != 0) {
		w.t.Helper()
		w.t.Error("an error changed something", task, c)
	}
	w.s = next
	return r, back
}

func (w *world) ok(task int, c Call) Result {
	w.t.Helper()
	return w.want(task, c, api.OK)
}

func (w *world) want(task int, c Call, e api.Errno) Result {
	w.t.Helper()
	r, _ := w.run(task, c, runs.Run{})
	if r.E != e {
		w.t.Error(task, c, "answers", r, "wanted", e)
	}
	return r
}

// alloc allocates on a run.
func (w *world) alloc(task int, r handle.Handle, size uint32, run runs.Run) {
	w.t.Helper()
	if x, _ := w.run(task, Call{Do: Alloc, R: r, A: size, B: 1}, run); x.E != api.OK {
		w.t.Error("alloc", x)
	}
}

func (w *world) kind(h handle.Handle) own.Own { return w.s.O.Of(w.s.T, h) }

// P12.1, P12.2, and the document's example.
func TestExample(t *testing.T) {
	w := &world{t, Begin()}
	if w.s.Alive != [8]bool{true} || w.s.Born != [8]bool{true} || w.s.T.All() != nil {
		t.Error("begin")
	}
	if r := w.ok(0, Call{Do: New, A: 4}); r != (Result{W: 1}) {
		t.Error(r)
	}
	c := Call{Do: Alloc, R: 1, A: 8, B: 8}
	if w.s.Needs(0, c) != 1 {
		t.Error(w.s.Needs(0, c))
	}
	if r, _ := w.run(0, c, runs.Run{At: 0, N: 1}); r != (Result{}) {
		t.Error(r)
	}
	if r := w.ok(0, c); r.V != 8 || w.s.Needs(0, c) != 0 {
		t.Error(r)
	}
	w.ok(0, Call{Do: Freeze, R: 1})
	w.want(0, Call{Do: Store, R: 1, B: 1, V: 5}, api.ErrAccess)
}

// P12.1: the errors that stand ahead of all others, in order.
func TestFirstErrors(t *testing.T) {
	w := begin(t)
	for _, task := range []int{-1, 3, 8, 256, math.MaxInt, math.MinInt} {
		w.want(task, Call{Do: 99}, api.ErrState)
	}
	for _, c := range []Call{
		{}, {Do: 23}, {Do: 255}, {Do: Share, R: 9, A: 3}, {Do: Lend, R: 9, A: 8}, {Do: Send, A: 3}, {Do: Kill, A: 4}, {Do: Kill, A: math.MaxUint32},
		{Do: Spawn, A: 0}, {Do: Spawn, A: 1}, {Do: Spawn, A: 8}, {Do: Spawn, A: math.MaxUint32}, {Do: Alloc, R: 9, A: 0, B: 1}, {Do: Alloc, R: 9, A: 8, B: 3},
		{Do: Alloc, R: 9, A: 129, B: 1}, {Do: Load, R: 9}, {Do: Load, R: 9, B: 9}, {Do: Store, R: 9, B: math.MaxUint32}, {Do: Lend, R: 9, A: 1, B: 2}, {Do: Send, A: 1, B: 2},
	} {
		w.want(0, c, api.ErrArg)
	}
	w.ok(1, Call{Do: Exit})
	w.want(0, Call{Do: Spawn, A: 1}, api.ErrArg)
	w.want(0, Call{Do: Send, A: 1}, api.ErrArg)
	w.want(1, Call{Do: Exit}, api.ErrState)
}

// P12.1: regions, and bytes.
func TestRegions(t *testing.T) {
	w := begin(t)
	w.want(0, Call{Do: New, A: 65}, api.ErrArg)
	w.want(0, Call{Do: New, R: 9, A: 1}, api.ErrStale)
	w.ok(0, Call{Do: New, A: 3})
	w.want(1, Call{Do: New, R: 1, A: 65}, api.ErrAccess)
	if r := w.ok(0, Call{Do: New, R: 1, A: 2}); r.W != 2 || forest.Root(w.s.T, 2) != 1 || w.kind(2) != (own.Own{Kind: own.Owned}) {
		t.Error(r)
	}
	c := Call{Do: Alloc, R: 2, A: 30, B: 1}
	for _, run := range []runs.Run{{}, {At: 0, N: 2}, {At: 64, N: 1}, {At: -1, N: 1}, {At: 0, N: -1}, {At: math.MaxInt, N: 1}} {
		if r, _ := w.run(0, c, run); r.E != api.ErrArg {
			t.Error(run, r)
		}
	}
	w.alloc(0, 2, 30, runs.Run{At: 5, N: 1})
	if r, _ := w.run(0, Call{Do: Alloc, R: 2, A: 8, B: 1}, runs.Run{At: 5, N: 1}); r.E != api.ErrArg {
		t.Error("a chunk twice", r)
	}
	if r, _ := w.run(0, Call{Do: Alloc, R: 2, A: 8, B: 1}, runs.Run{At: 3, N: 1}); r.E != api.OK || r.V != 32 {
		t.Error(r)
	}
	w.want(0, c, api.ErrMem)
	if w.s.Needs(0, c) != 0 || w.s.Needs(1, c) != 0 || w.s.Needs(0, Call{Do: New}) != 0 || w.s.Needs(-1, c) != 0 {
		t.Error("needs")
	}
	w.want(0, Call{Do: Load, R: 2, A: 33, B: 8}, api.ErrRange)
	w.want(0, Call{Do: Load, R: 2, A: math.MaxUint32, B: 8}, api.ErrRange)
	w.want(1, Call{Do: Load, R: 2, A: 33, B: 8}, api.ErrAccess)
	if r := w.ok(0, Call{Do: Load, R: 2, A: 30, B: 8}); r != (Result{}) {
		t.Error(r)
	}
	w.ok(0, Call{Do: Store, R: 2, A: 32, B: 8})
	w.ok(0, Call{Do: Ref, R: 2, A: 3, S: 1})
	_, back := w.run(0, Call{Do: Reset, R: 2}, runs.Run{})
	if r, _ := w.s.T.Get(2); !slices.Equal(back, []runs.Run{{At: 5, N: 1}, {At: 3, N: 1}}) || !reflect.DeepEqual(r, table.Region{Up: 1, Quota: 2, E: extent.Extent{}}) {
		t.Error(back, r)
	}
	w.want(1, Call{Do: Reset, R: 2}, api.ErrAccess)
	if w.s.Needs(0, c) != 1 || w.s.Needs(1, c) != 0 {
		t.Error("needs")
	}
	if r, _ := w.run(1, c, runs.Run{At: 0, N: 1}); r.E != api.ErrAccess {
		t.Error(r)
	}
	w.want(1, Call{Do: Deref, R: 2, A: 0}, api.ErrAccess)
}

// P12.1: numbers of calls.
func TestNumbers(t *testing.T) {
	if New != 1 || Alloc != 2 || Load != 3 || Store != 4 || Recv != 15 || Ref != 18 || Spawn != 22 {
		t.Error("numbers")
	}
}

// P12.1: a cell names what its task may load.
func TestRef(t *testing.T) {
	w := begin(t)
	w.ok(0, Call{Do: New, A: 8})
	w.ok(0, Call{Do: New, R: 1, A: 8})
	k := w.ok(0, Call{Do: Lend, R: 1, A: 1, B: 1}).W
	w.want(0, Call{Do: Ref, R: 2, A: 0, S: 1}, api.ErrAccess)
	w.want(0, Call{Do: Ref, R: 2, A: 0, S: 9}, api.ErrStale)
	w.ok(0, Call{Do: Ref, R: 2, A: 0})
	w.ok(1, Call{Do: Return, S: k})
	w.ok(0, Call{Do: Ref, R: 2, A: 0, S: 1})
	w.ok(0, Call{Do: Ref, R: 2, A: 0})
	w.want(0, Call{Do: Deref, R: 2, A: 0}, api.ErrEmpty)
}

// P12.1: a box with words, and with shares, is drained.
func TestDrained(t *testing.T) {
	w := begin(t)
	w.ok(0, Call{Do: New, A: 8})
	w.ok(0, Call{Do: Freeze, R: 1})
	w.ok(0, Call{Do: Send, A: 1, V: 3})
	w.ok(0, Call{Do: Send, A: 1, V: 3, B: 1})
	w.ok(0, Call{Do: Send, R: 1, A: 1, B: 1})
	w.ok(1, Call{Do: Exit})
	if w.kind(1) != (own.Own{Kind: own.Frozen, Holders: 1}) || w.s.Alive[1] {
		t.Error(w.kind(1))
	}
}

// P12.3
func TestPlace(t *testing.T) {
	w := begin(t)
	w.ok(0, Call{Do: New, A: 2})
	w.alloc(0, 1, 30, runs.Run{At: 5, N: 1})
	w.alloc(0, 1, 8, runs.Run{At: 3, N: 1})
	l, e := w.s.Place(Call{Do: Load, R: 1, A: 30, B: 4})
	if e != api.OK || !slices.Equal(l, []int{190, 191, 96, 97}) {
		t.Error(l, e)
	}
	for _, x := range []struct {
		c Call
		e api.Errno
	}{
		{Call{}, api.ErrStale}, {Call{Do: New, R: 9}, api.ErrStale}, {Call{Do: Recv}, api.ErrStale}, {Call{Do: 200, R: 33}, api.ErrStale},
		{Call{Do: Load, R: 9}, api.ErrStale}, {Call{Do: Store, R: 9, B: 9}, api.ErrStale}, {Call{Do: Load, R: 9, A: 90, B: 8}, api.ErrStale}, {Call{Do: Load, R: 257, B: 1}, api.ErrStale},
		{Call{R: 1, B: 1}, api.ErrArg}, {Call{Do: New, R: 1}, api.ErrArg}, {Call{Do: Alloc, R: 1, A: 90, B: 8}, api.ErrArg}, {Call{Do: 200, R: 1, B: 1}, api.ErrArg},
		{Call{Do: Store, R: 1, A: 90}, api.ErrArg}, {Call{Do: Store, R: 1, B: 9}, api.ErrArg}, {Call{Do: Load, R: 1, A: 90, B: math.MaxUint32}, api.ErrArg},
		{Call{Do: Store, R: 1, A: 33, B: 8}, api.ErrRange}, {Call{Do: Load, R: 1, A: math.MaxUint32, B: 1}, api.ErrRange},
	} {
		if l, e := w.s.Place(x.c); l != nil || e != x.e {
			t.Error(x, l, e)
		}
	}
}

// P12.1: trees that are cut, grafted, deleted.
func TestTrees(t *testing.T) {
	w := begin(t)
	w.ok(0, Call{Do: New, A: 8})
	w.ok(0, Call{Do: New, R: 1, A: 8})
	w.alloc(0, 2, 40, runs.Run{At: 1, N: 2})
	w.alloc(0, 1, 1, runs.Run{At: 0, N: 1})
	w.ok(1, Call{Do: New, A: 8})
	w.want(0, Call{Do: Cut, R: 1}, api.ErrState)
	w.want(1, Call{Do: Cut, R: 1}, api.ErrAccess)
	w.want(0, Call{Do: Graft, R: 1, S: 2}, api.ErrState)
	w.want(0, Call{Do: Graft, R: 9, S: 3}, api.ErrStale)
	w.want(0, Call{Do: Graft, R: 1, S: 3}, api.ErrAccess)
	w.want(0, Call{Do: Graft, R: 1, S: 0}, api.ErrStale)
	w.ok(0, Call{Do: Ref, R: 2, A: 0, S: 1})
	w.ok(0, Call{Do: Cut, R: 2})
	if r, _ := w.s.T.Get(2); r.Up != 0 || r.Cells[0] != 0 || w.kind(2) != (own.Own{Kind: own.Owned}) {
		t.Error(r)
	}
	w.ok(0, Call{Do: Graft, R: 2, S: 1})
	k := w.ok(0, Call{Do: Lend, R: 2, A: 1}).W
	w.want(0, Call{Do: Delete, R: 1}, api.ErrAccess)
	w.want(0, Call{Do: Freeze, R: 1}, api.ErrAccess)
	w.want(0, Call{Do: Send, R: 1, A: 1}, api.ErrAccess)
	w.ok(1, Call{Do: Return, S: k})
	_, back := w.run(0, Call{Do: Delete, R: 1}, runs.Run{})
	if !slices.Equal(back, []runs.Run{{At: 0, N: 1}, {At: 1, N: 2}}) || !slices.Equal(w.s.T.All(), []handle.Handle{3}) {
		t.Error(back)
	}
}

// P12.1: frozen trees.
func TestFrozen(t *testing.T) {
	w := begin(t)
	w.ok(0, Call{Do: New, A: 8})
	w.ok(0, Call{Do: New, R: 1, A: 8})
	w.alloc(0, 2, 40, runs.Run{At: 1, N: 2})
	w.want(0, Call{Do: Share, R: 9, A: 1}, api.ErrStale)
	w.want(0, Call{Do: Share, R: 1, A: 1}, api.ErrState)
	w.want(0, Call{Do: Drop, R: 2}, api.ErrState)
	w.ok(0, Call{Do: Freeze, R: 2})
	if w.kind(2) != (own.Own{Kind: own.Frozen, Holders: 1}) || w.kind(1).Kind != own.Owned {
		t.Error(w.kind(2))
	}
	w.want(1, Call{Do: Drop, R: 2}, api.ErrAccess)
	w.want(1, Call{Do: Share, R: 2, A: 0}, api.ErrAccess)
	w.want(0, Call{Do: Share, R: 2, A: 0}, api.ErrFull)
	w.ok(0, Call{Do: Share, R: 2, A: 1})
	w.ok(1, Call{Do: Load, R: 2, A: 0, B: 8})
	w.ok(0, Call{Do: Ref, R: 1, A: 0, S: 2})
	w.want(1, Call{Do: Ref, R: 1, A: 0, S: 2}, api.ErrAccess)
	w.want(0, Call{Do: Ref, R: 1, A: 8, S: 2}, api.ErrArg)
	if r := w.ok(0, Call{Do: Deref, R: 1, A: 0}); r.W != 2 {
		t.Error(r)
	}
	w.want(0, Call{Do: Deref, R: 1, A: 1}, api.ErrEmpty)
	w.ok(0, Call{Do: Drop, R: 2})
	w.want(0, Call{Do: Load, R: 2, B: 1}, api.ErrAccess)
	_, back := w.run(1, Call{Do: Drop, R: 2}, runs.Run{})
	if !slices.Equal(back, []runs.Run{{At: 1, N: 2}}) || w.s.T.Good(2) {
		t.Error(back)
	}
	w.want(0, Call{Do: Deref, R: 1, A: 0}, api.ErrStale)
}

// P12.1: what is lent.
func TestLent(t *testing.T) {
	w := begin(t)
	w.ok(0, Call{Do: New, A: 8})
	w.ok(0, Call{Do: New, A: 8})
	w.want(0, Call{Do: Lend, R: 9, A: 1, S: 9}, api.ErrStale)
	w.want(0, Call{Do: Lend, R: 1, A: 1, S: 9}, api.ErrStale)
	w.want(0, Call{Do: Lend, R: 9, A: 1}, api.ErrStale)
	w.want(0, Call{Do: Lend, R: 1, A: 0}, api.ErrArg)
	w.want(1, Call{Do: Lend, R: 1, A: 2}, api.ErrAccess)
	a := w.ok(0, Call{Do: Lend, R: 1, A: 1, B: 1}).W
	w.want(0, Call{Do: Load, R: 1, B: 1}, api.ErrAccess)
	w.want(0, Call{Do: Lend, R: 1, A: 2}, api.ErrAccess)
	w.want(0, Call{Do: Lend, R: 1, A: 2, S: a}, api.ErrAccess)
	w.want(1, Call{Do: Lend, R: 2, A: 2, S: a}, api.ErrAccess)
	w.want(1, Call{Do: Return, S: 9}, api.ErrStale)
	w.want(0, Call{Do: Return, S: a}, api.ErrAccess)
	b := w.ok(1, Call{Do: Lend, R: 1, A: 2, S: a}).W
	w.want(2, Call{Do: Lend, R: 1, A: 0, B: 1, S: b}, api.ErrState)
	w.ok(1, Call{Do: New, A: 4})
	w.want(1, Call{Do: Graft, R: 3, S: 1}, api.ErrAccess)
	w.ok(2, Call{Do: Return, S: b})
	w.ok(1, Call{Do: Graft, R: 3, S: 1})
	if w.kind(3) != (own.Own{Kind: own.Owned}) {
		t.Error("grafted into another one's tree", w.kind(3))
	}
	w.ok(1, Call{Do: Lend, R: 1, A: 2, S: a})
	w.ok(1, Call{Do: Return, S: a})
	if w.s.K.On(1) != nil {
		t.Error("both are gone")
	}
}

// P12.1: messages.
func TestMail(t *testing.T) {
	w := begin(t)
	w.ok(0, Call{Do: New, A: 8})
	w.ok(0, Call{Do: New, R: 1, A: 8})
	w.want(0, Call{Do: Recv}, api.ErrEmpty)
	w.want(0, Call{Do: TryRecv}, api.ErrEmpty)
	w.want(1, Call{Do: Send, R: 2, A: 0}, api.ErrAccess)
	w.want(1, Call{Do: Send, R: 9, A: 0}, api.ErrStale)
	w.want(0, Call{Do: Send, R: 9, A: 1, B: 1}, api.ErrStale)
	w.want(0, Call{Do: Send, R: 1, A: 1, B: 1}, api.ErrState)
	w.ok(0, Call{Do: Send, R: 2, A: 1, V: 7})
	if w.kind(2) != (own.Own{Kind: own.Flight}) || forest.Root(w.s.T, 2) != 2 || !slices.Equal(w.s.Boxes[1].All(), []mail.Message{{Word: 7, Region: 2}}) {
		t.Error(w.kind(2))
	}
	for task := range 3 {
		w.want(task, Call{Do: Delete, R: 2}, api.ErrAccess)
	}
	if r := w.ok(1, Call{Do: Recv}); r != (Result{V: 7, W: 2}) || w.kind(2) != (own.Own{Kind: own.Owned, Task: 1}) {
		t.Error(r)
	}
	w.ok(1, Call{Do: Freeze, R: 2})
	w.want(0, Call{Do: Send, R: 2, A: 1, B: 1}, api.ErrAccess)
	w.ok(1, Call{Do: Send, R: 2, A: 0, B: 1})
	w.ok(1, Call{Do: Send, R: 2, A: 0, B: 1})
	if w.kind(2).Holders != 3 {
		t.Error(w.kind(2))
	}
	if r := w.ok(0, Call{Do: TryRecv}); r != (Result{W: 2}) || w.kind(2).Holders != 3 {
		t.Error(r)
	}
	for range 4 {
		w.ok(0, Call{Do: Send, A: 2})
	}
	w.want(0, Call{Do: Send, R: 1, A: 2}, api.ErrFull)
	w.ok(2, Call{Do: Close})
	w.want(2, Call{Do: Close}, api.ErrClosed)
	w.want(0, Call{Do: Send, R: 1, A: 2}, api.ErrClosed)
	for range 4 {
		w.ok(2, Call{Do: Recv})
	}
	w.want(2, Call{Do: Recv}, api.ErrClosed)
}

// P12.1: a message with which no tree goes along has no share, whatever B is.
func TestSendWordAlone(t *testing.T) {
	for b := range uint32(2) {
		w := begin(t)
		if r := w.ok(0, Call{Do: Send, A: 1, B: b, V: 7}); r != (Result{}) {
			t.Error(b, r)
		}
		if l := w.s.Boxes[1].All(); !slices.Equal(l, []mail.Message{{Word: 7}}) {
			t.Error(b, l)
		}
		if r := w.ok(1, Call{Do: TryRecv}); r != (Result{V: 7}) {
			t.Error(b, r)
		}
		w.want(0, Call{Do: Send, A: 1, B: b + 2}, api.ErrArg)
	}
	w := begin(t)
	w.ok(0, Call{Do: New})
	w.ok(0, Call{Do: Freeze, R: 1})
	w.ok(0, Call{Do: Send, R: 1, A: 1, B: 1})
	if l := w.s.Boxes[1].All(); !slices.Equal(l, []mail.Message{{Region: 1, Share: true}}) {
		t.Error("a share", l)
	}
}

// P12.1: a task dies.
func TestDeath(t *testing.T) {
	w := begin(t)
	for i := range uint32(4) {
		w.ok(0, Call{Do: New, A: 8})
		w.alloc(0, handle.Handle(i+1), 1, runs.Run{At: int(i), N: 1})
	}
	w.ok(1, Call{Do: New, A: 8})
	w.alloc(1, 5, 1, runs.Run{At: 9, N: 1})
	w.ok(2, Call{Do: New, A: 8})
	w.ok(0, Call{Do: Freeze, R: 3})
	w.ok(0, Call{Do: Freeze, R: 4})
	w.ok(0, Call{Do: Share, R: 3, A: 1})
	w.ok(0, Call{Do: Share, R: 4, A: 1})
	w.ok(0, Call{Do: Drop, R: 4})
	w.ok(0, Call{Do: Send, R: 1, A: 1})
	w.ok(2, Call{Do: Send, R: 6, A: 1})
	w.ok(1, Call{Do: New, A: 8})
	w.alloc(1, 7, 1, runs.Run{At: 11, N: 1})
	w.ok(1, Call{Do: Send, R: 7, A: 1})
	w.ok(0, Call{Do: Lend, R: 2, A: 1, B: 1})
	w.ok(1, Call{Do: Lend, R: 5, A: 2})
	w.ok(2, Call{Do: Exit})
	r, back := w.run(0, Call{Do: Kill, A: 1}, runs.Run{})
	if r != (Result{}) || !slices.Equal(back, []runs.Run{{At: 11, N: 1}, {At: 9, N: 1}, {At: 3, N: 1}}) {
		t.Error(r, back)
	}
	if w.kind(1) != (own.Own{Kind: own.Owned}) || w.kind(3).Holders != 1 || !slices.Equal(w.s.T.All(), []handle.Handle{1, 2, 3}) || !w.s.Boxes[1].Closed() || w.s.Boxes[1].All() != nil {
		t.Error(w.s.T.All())
	}
	w.ok(0, Call{Do: Store, R: 2, B: 1})
	if w.s.Alive[1] || !w.s.Born[1] || w.s.K.Of(2) != nil {
		t.Error("dead")
	}
	w.ok(0, Call{Do: Kill, A: 0})
	if w.s.T.All() != nil || w.s.Alive != [8]bool{} {
		t.Error(w.s.T.All())
	}
}

// P12.4, and P2 of the whole, whatever is called.
func TestWhatever(t *testing.T) {
	for seed := range 40 {
		g := sample.New(seed)
		w := begin(t)
		for range 300 {
			task := g.N(4)
			c := g.Call(w.s, task)
			was := chunks(w.s)
			n := w.s.Needs(task, c)
			_, back := w.run(task, c, free(w.s, n))
			now := chunks(w.s)
			for _, r := range back {
				for p := r.At; p < r.At+r.N; p++ {
					if was[p] != 1 || now[p] != 0 {
						t.Fatal("given back", c, back)
					}
				}
			}
			sound(t, w.s)
		}
	}
}

// chunks is how often each page is one of a region.
func chunks(s State) map[int]int {
	m := map[int]int{}
	for _, h := range s.T.All() {
		r, _ := s.T.Get(h)
		for _, x := range r.E.Runs {
			for p := x.At; p < x.At+x.N; p++ {
				m[p]++
			}
		}
	}
	return m
}

// free is a run of pages that are no region's, or none.
func free(s State, n int) runs.Run {
	f := runs.Of(api.MaxPages)
	for p := range chunks(s) {
		f, _ = f.Take(p, 1)
	}
	at, ok := f.Find(n)
	if !ok {
		return runs.Run{}
	}
	return runs.Run{At: at, N: n}
}

func sound(t *testing.T, s State) {
	for _, h := range s.T.All() {
		stores := 0
		for task := range api.MaxTasks {
			if s.May(task, h, access.Store) == api.OK {
				stores++
			}
			if !s.Alive[task] && (len(s.O.Roots(s.T, task)) > 0 || len(s.O.Held(s.T, task)) > 0 || len(s.K.Of(task)) > 0) {
				t.Fatal("a dead task has something", task)
			}
		}
		r, _ := s.T.Get(h)
		if stores > 1 || r.E.Pages() > r.Quota || s.O.Of(s.T, h).Kind == own.None {
			t.Fatal(h, stores, r)
		}
	}
}
