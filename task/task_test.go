package task

import (
	"math"
	"reflect"
	"testing"

	"bailiwick/api"
	"bailiwick/code"
	"bailiwick/model"
)

func of(t *testing.T, l ...code.Instr) Task {
	t.Helper()
	b, _ := code.Encode(l)
	x, e := Of(b)
	if e != api.OK || len(x.Code) != len(l) || x.Next != 0 || x.Regs != [8]uint64{} {
		t.Fatal(x, e)
	}
	return x
}

// P14.1, P14.2, and the document's example.
func TestExample(t *testing.T) {
	x := of(t, code.Instr{Op: code.Set, A: 6, N: 5}, code.Instr{Op: code.CallBase + model.New, A: 1})
	if c, ok := x.Wants(); ok || c != (model.Call{}) {
		t.Error(c)
	}
	x = x.Step()
	if c, ok := x.Wants(); !ok || c != (model.Call{Do: model.New, A: 5}) || x.Next != 1 {
		t.Error(c)
	}
	if y := x.Step(); !reflect.DeepEqual(x, y) {
		t.Error("a step of one that wants a call")
	}
	if y, e := Of("\x07"); !reflect.DeepEqual(y, Task{}) || e != api.ErrForm {
		t.Error(y, e)
	}
}

// P14.2: each operation.
func TestStep(t *testing.T) {
	l := []code.Instr{
		{Op: code.Set, A: 0, N: 65535}, {Op: code.Set, A: 1, N: 7}, {Op: code.Sub, A: 2, B: 1, C: 0}, {Op: code.Add, A: 3, B: 2, C: 0},
		{Op: code.Shift, A: 4, B: 1, N: 63}, {Op: code.Shift, A: 5, B: 1, N: 64}, {Op: code.Shift, A: 6, B: 1, N: 65535}, {Op: code.Shift, A: 7, B: 1},
		{Op: code.If, A: 5, N: 0}, {Op: code.If, A: 4, N: 11}, {Op: code.Jump, N: 0}, {Op: code.Jump, N: 10}, {},
	}
	x := of(t, l...)
	seven := uint64(7)
	want := [8]uint64{65535, 7, seven - 65535, 7, 1 << 63, 0, 0, 7}
	for range 8 {
		x = x.Step()
	}
	if x.Regs != want {
		t.Error(x.Regs)
	}
	for _, next := range []int{9, 11, 10, 0} {
		if x = x.Step(); x.Next != next || x.Regs != want {
			t.Error(x.Next, next)
		}
	}
}

// P14.2, P14.3: calls, and what came of them.
func TestCalls(t *testing.T) {
	x := of(t, code.Instr{Op: code.CallBase + model.Spawn, A: 4, B: 1, C: 2, N: 9}, code.Instr{})
	x.Regs = [8]uint64{1, 1<<32 + 5, 1<<33 + 6, 3, 4, math.MaxUint64, 1<<40 + 7, 8}
	if c, _ := x.Wants(); c != (model.Call{Do: model.Spawn, R: 5, S: 6, A: 7, B: 9, V: math.MaxUint64}) {
		t.Error(c)
	}
	y := x.Takes(model.Result{E: api.ErrMem, V: 50, W: 60})
	if y.Next != 1 || y.Regs != [8]uint64{1, 1<<32 + 5, 1<<33 + 6, 3, 60, math.MaxUint64, 1<<40 + 7, 6} {
		t.Error(y)
	}
	x.Code[0].A = 7
	if z := x.Takes(model.Result{E: api.ErrMem, V: 50, W: 60}); z.Regs[7] != 6 || z.Regs[4] != 60 {
		t.Error("the later one holds", z)
	}
	if c, ok := y.Wants(); !ok || c != (model.Call{Do: model.Exit}) {
		t.Error("halt", c)
	}
	if z := y.Takes(model.Result{V: 3}); z.Next != 2 || z.Regs[0] != 3 {
		t.Error("a halt takes in", z)
	}
	y.Next = 2
	if c, ok := y.Wants(); !ok || c != (model.Call{Do: model.Exit}) || !reflect.DeepEqual(y.Takes(model.Result{V: 3}), y) || !reflect.DeepEqual(y.Step(), y) {
		t.Error("the end", c)
	}
	s := of(t, code.Instr{Op: code.Set})
	if !reflect.DeepEqual(s.Takes(model.Result{V: 3}), s) {
		t.Error("it wants none")
	}
	s.Step().Code[0].Op = code.Jump
	if s.Code[0].Op != code.Set {
		t.Error("shared")
	}
}

// R1: tasks that were made by hand.
func TestWrong(t *testing.T) {
	if _, calls := (Task{Code: []code.Instr{{Op: code.CallBase}}}).Wants(); calls {
		t.Error("no call")
	}
	if x := (Task{Code: []code.Instr{{Op: code.Add, A: 1, B: 8, C: 9}}}).Step(); x.Regs != [8]uint64{} || x.Next != 1 {
		t.Error(x)
	}
	for _, x := range []Task{{Next: -1}, {Next: math.MaxInt}, {Next: math.MinInt}, {Code: []code.Instr{{Op: 9}}}, {Code: []code.Instr{{Op: 255, A: 255, B: 255, C: 255}}}, {Code: []code.Instr{{Op: code.Add, A: 200, B: 100, C: 8}}}, {Code: []code.Instr{{Op: 17, A: 200, B: 100, C: 8}}}, {Code: []code.Instr{{Op: code.Jump, N: 9}}}} {
		x.Wants()
		x.Step().Step().Takes(model.Result{}).Wants()
		x.Takes(model.Result{V: 1})
	}
}

// P14.4
func TestGoesOn(t *testing.T) {
	x := of(t, code.Instr{Op: code.If, A: 1, N: 3}, code.Instr{Op: code.Set, A: 1, N: 1}, code.Instr{Op: code.Jump, N: 0}, code.Instr{Op: code.Sub, A: 1, B: 1, C: 1})
	for range 20 {
		y := x.Step()
		if y.Next < 0 || y.Next > len(x.Code) || !reflect.DeepEqual(y.Code, x.Code) {
			t.Fatal(y)
		}
		x = y
	}
	if x.Next != 4 {
		t.Error(x.Next)
	}
}
