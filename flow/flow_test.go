package flow

import (
	"math"
	"reflect"
	"slices"
	"testing"

	"bailiwick/api"
	"bailiwick/code"
	"bailiwick/model"
	"bailiwick/sample"
	"bailiwick/task"
)

func jump(n uint16) code.Instr { return code.Instr{Op: code.Jump, N: n} }

func iff(n uint16) code.Instr { return code.Instr{Op: code.If, A: 1, N: n} }

var (
	halt = code.Instr{}
	set  = code.Instr{Op: code.Set}
	exit = code.Instr{Op: code.CallBase + model.Exit}
)

type prog = []code.Instr

// P24.1, P24.2, and the document's example.
func TestExample(t *testing.T) {
	l := prog{iff(2), halt, jump(0)}
	reached, e1 := Reached(l)
	loops, e2 := Loops(l)
	n, e3 := Longest(l)
	if !slices.Equal(reached, []bool{true, true, true, false}) || !slices.Equal(loops, []bool{true, false, true, false}) || n != 0 || e1 != api.OK || e2 != api.OK || e3 != api.ErrState {
		t.Error(reached, loops, n, e1, e2, e3)
	}
	for _, x := range []struct {
		l    prog
		at   int
		want []int
	}{
		{l, 0, []int{1, 2}}, {l, 1, nil}, {l, 2, []int{0}}, {l, 3, nil}, {l, 4, nil}, {l, -1, nil}, {l, math.MaxInt, nil}, {prog{iff(0)}, 0, []int{0, 1}},
		{prog{iff(1), set}, 0, []int{1}}, {prog{set}, 0, []int{1}}, {prog{exit}, 0, []int{1}}, {nil, 0, nil}, {prog{jump(0)}, 0, []int{0}},
	} {
		if got, e := Next(x.l, x.at); !slices.Equal(got, x.want) || e != api.OK {
			t.Error(x, got, e)
		}
	}
}

// P24.2
func TestLongest(t *testing.T) {
	for _, x := range []struct {
		l prog
		n int
		e api.Errno
	}{
		{nil, 0, api.OK}, {prog{halt}, 1, api.OK}, {prog{set, set}, 2, api.OK}, {prog{jump(2), set, set}, 2, api.OK}, {prog{iff(2), set, set}, 3, api.OK},
		{prog{iff(3), jump(3), set, halt}, 3, api.OK}, {prog{jump(0)}, 0, api.ErrState}, {prog{halt, jump(1)}, 1, api.OK}, {make(prog, 65), 0, api.ErrForm},
	} {
		if n, e := Longest(x.l); n != x.n || e != x.e {
			t.Error(x, n, e)
		}
	}
	var l prog
	for i := range uint16(63) {
		l = append(l, iff(i+1))
	}
	if n, e := Longest(append(l, halt)); n != 64 || e != api.OK {
		t.Error(n, e)
	}
	if r, _ := Reached(nil); !slices.Equal(r, []bool{true}) {
		t.Error(r)
	}
	bad := prog{jump(9)}
	_, e1 := Next(bad, 0)
	_, e2 := Reached(bad)
	_, e3 := Loops(bad)
	_, e4 := Trim(bad)
	_, e5 := Rules(bad, 0, 0)
	if e1 != api.ErrForm || e2 != api.ErrForm || e3 != api.ErrForm || e4 != api.ErrForm || e5 != api.ErrForm {
		t.Error(e1, e2, e3, e4, e5)
	}
}

// P24.3
func TestTrim(t *testing.T) {
	l := prog{jump(3), set, halt, iff(5), jump(0), exit, jump(4), set}
	got, e := Trim(l)
	if e != api.OK || !slices.Equal(got, prog{jump(1), iff(3), jump(0), exit, jump(2)}) || l[3].N != 5 {
		t.Error(got, e)
	}
	for _, x := range []struct {
		a, b int
		is   bool
	}{{0, 0, true}, {0, 6, true}, {3, 4, true}, {3, 3, true}, {5, 6, true}, {5, 4, false}, {4, 6, false}, {1, 1, false}, {0, 1, false}, {1, 0, false}, {6, 3, false}, {-1, 0, false}, {0, 9, false}, {math.MaxInt, 0, false}, {8, 8, false}} {
		if is, e := Rules(l, x.a, x.b); is != x.is || e != api.OK {
			t.Error(x, is, e)
		}
	}
	if is, _ := Rules(nil, 0, 0); !is {
		t.Error("the end of none")
	}
}

func programs(t *testing.T, do func(prog)) {
	g := sample.New(24)
	for range 300 {
		var l prog
		for n := 1 + g.N(12); len(l) < n; {
			switch g.N(5) {
			case 0:
				l = append(l, jump(uint16(g.N(n))))
			case 1:
				l = append(l, iff(uint16(g.N(n))))
			case 2:
				l = append(l, halt)
			default:
				l = append(l, g.Instr(n))
			}
		}
		do(l)
	}
}

// P24.4
func TestWays(t *testing.T) {
	g := sample.New(1)
	programs(t, func(l prog) {
		b, _ := code.Encode(l)
		x, _ := task.Of(b)
		reached, _ := Reached(l)
		long, e := Longest(l)
		for n := 0; n < 200; n++ {
			if !reached[x.Next] {
				t.Fatal("not reached", x.Next, l)
			}
			if x.Next == len(l) || l[x.Next].Op == code.Halt {
				break
			}
			if e == api.OK && n >= long {
				t.Fatal("too long", l)
			}
			was := x.Next
			if _, calls := x.Wants(); calls {
				x = x.Takes(model.Result{V: uint64(g.N(3)), W: 1, E: api.Errno(g.N(2))})
			} else {
				x = x.Step()
			}
			if to, _ := Next(l, was); !slices.Contains(to, x.Next) {
				t.Fatal("goes on", was, x.Next)
			}
		}
	})
}

// P24.5
func TestTrimmed(t *testing.T) {
	g := sample.New(2)
	programs(t, func(l prog) {
		m, _ := Trim(l)
		if again, _ := Trim(m); !slices.Equal(again, m) {
			t.Fatal("again", l)
		}
		b, _ := code.Encode(l)
		c, _ := code.Encode(m)
		x, _ := task.Of(b)
		y, _ := task.Of(c)
		for range 100 {
			p, is := x.Wants()
			q, too := y.Wants()
			if p != q || is != too || x.Regs != y.Regs {
				t.Fatal("unlike", l, m)
			}
			r := model.Result{V: uint64(g.N(3))}
			if is && x.Next < len(l) && l[x.Next].Op == code.Halt {
				break
			}
			if is {
				x, y = x.Takes(r), y.Takes(r)
			} else {
				x, y = x.Step(), y.Step()
			}
		}
	})
}

// P24.6
func TestRules(t *testing.T) {
	programs(t, func(l prog) {
		reached, _ := Reached(l)
		rules := func(a, b int) bool {
			is, _ := Rules(l, a, b)
			return is
		}
		for c := range reached {
			if rules(0, c) != reached[c] || rules(c, c) != reached[c] {
				t.Fatal("0 rules all", l)
			}
			for a := range reached {
				for b := range reached {
					if rules(a, c) && rules(b, c) && !rules(a, b) && !rules(b, a) {
						t.Fatal(a, b, c, l)
					}
				}
			}
		}
	})
	if !reflect.DeepEqual(next(nil, 0), []int(nil)) {
		t.Error("none")
	}
}
