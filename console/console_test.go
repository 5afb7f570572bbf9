package console

import (
	"reflect"
	"strings"
	"testing"

	"bailiwick/api"
	"bailiwick/mem"
	"bailiwick/model"
	"bailiwick/sample"
)

func open(t *testing.T, pages int) *Console {
	t.Helper()
	c, e := New(pages)
	if e != api.OK {
		t.Fatal(e)
	}
	return c
}

// P42.1, P42.2, and the document's example.
func TestExample(t *testing.T) {
	c := open(t, 4)
	a := c.Run("new 0 0 2\nalloc 1 0 3 1\nload 1 0 0 9\ntask 9\nfree")
	if a != "ok 0 1\nok 0 0\nerror 2\nerror 2\nok 3 0\n" {
		t.Errorf("%q", a)
	}
	for _, x := range [][2]string{
		{"", ""}, {" \t ", ""}, {"# free", ""}, {"store 1 0 0 2 513", "ok 0 0"}, {"load 1 0 0 1", "ok 1 0"}, {"load 1 0 1 1 99", "ok 2 0"}, {"load 9", "error 2"}, {"load 9 0 0 1", "error 4"},
		{"spawn 0 0 3", "ok 0 0"}, {"task 3", "ok"}, {"load 1 0 0 1", "error 5"}, {"task 007", "ok"}, {"new", "error 12"}, {"task 0", "ok"}, {"recv", "error 10"}, {"send 0 0 0 0 18446744073709551615", "ok 0 0"}, {"tryrecv", "ok 18446744073709551615 0"},
		{"audit", "ok 0"}, {"reset 1", "ok 0 0"}, {"free", "ok 3 1"}, {"new 0 0 00000000000000000001", "ok 0 2"}, {"task 18446744073709551615", "error 2"}, {"task 8", "error 2"}, {"new 0 0 4294967295", "error 2"}, {"exit#now", "ok 0 0"}, {"new", "error 12"},
	} {
		if a := c.Do(x[0]); a != x[1] {
			t.Errorf("%q %q wanted %q", x[0], a, x[1])
		}
	}
	if c.Hand().Task() != 0 {
		t.Error(c.Hand().Task())
	}
}

// P42.1: lines that are none.
func TestWhat(t *testing.T) {
	c := open(t, 4)
	for _, l := range []string{
		"x", "New", "halt", "set 1", "jump", "if", "new 1 2 3 4 5 6", "new x", "new -1", "new +1", "new 1_0", "new 0x1", "new 4294967296", "new 0 4294967296", "new 0 0 4294967296", "new 0 0 0 4294967296",
		"send 0 0 0 0 18446744073709551616", "new 000000000000000000001", "task", "task x", "task 1 2", "task 18446744073709551616", "free 1", "free x", "audit 0", "free\n", "new\r", "new\v0", "new\u00a00", "free;", "1 new", "\x00", "new 1.0",
	} {
		if a := c.Do(l); a != "what?" {
			t.Errorf("%q %q", l, a)
		}
	}
	if len(c.Hand().Core().S.T.All()) != 0 || c.Hand().Task() != 0 {
		t.Error("nothing is done")
	}
	for _, p := range []int{0, 65, -1} {
		if c, e := New(p); c != nil || e != api.ErrArg {
			t.Error(e)
		}
	}
	var n *Console
	if n.Do("") != "what?" || n.Do("free") != "what?" || n.Hand() != nil || n.Run("free\nfree") != "what?\nwhat?\n" {
		t.Error("nil")
	}
}

// P42.3, P42.4: a call, told as a line, is that call.
func TestLine(t *testing.T) {
	if l, ok := Line(model.Call{Do: model.Ref, R: 1, S: 2, A: 3, B: 4, V: 5}); l != "ref 1 2 3 4 5" || !ok {
		t.Error(l)
	}
	for _, d := range []uint8{0, 23, 240, 255} {
		if l, ok := Line(model.Call{Do: d}); l != "" || ok {
			t.Error(d, l)
		}
	}
	for seed := range 10 {
		g := sample.New(seed)
		c := open(t, 12)
		m, _ := mem.Open(12)
		for range 150 {
			x := g.Call(m.Core().S, 0)
			if x.Do == model.Exit || x.Do == model.Kill {
				continue
			}
			l, ok := Line(x)
			r := m.Call(x)
			want := answer("ok", r.V, uint64(r.W))
			if r.E != api.OK {
				want = failed(r.E)
			}
			if a := c.Do(l); a != want || !ok || !reflect.DeepEqual(c.Hand().Core().S, m.Core().S) {
				t.Fatal(l, a, want)
			}
		}
	}
}

// P42.4, P42.5
func TestText(t *testing.T) {
	text := "new 0 0 9\nnew 1 0 4\n\nalloc 2 0 40 8\nstore 2 0 8 8 77\nx\n  \nload 2 0 8 8\nspawn 0 0 1\nlend 2 0 1 1\ntask 1\nload 2 0 8 8\nreturn 0 1\nfree\naudit\n"
	want := open(t, 8).Run(text)
	if strings.Count(want, "\n") != 13 || strings.Count(want, "what?") != 1 || strings.Count(want, "ok 77 0") != 2 {
		t.Error(want)
	}
	lines := strings.SplitAfter(text, "\n")
	for cut := range lines {
		c := open(t, 8)
		if a := c.Run(strings.Join(lines[:cut], "")) + c.Run(strings.Join(lines[cut:], "")); a != want {
			t.Error(cut, a)
		}
	}
	c, one := open(t, 8), ""
	for _, l := range lines {
		if a := c.Do(strings.TrimSuffix(l, "\n")); a != "" {
			one += a + "\n"
		}
	}
	wide := strings.ReplaceAll(strings.ReplaceAll(text, " ", "\t  "), "\n", " # new 0 0 1\n ")
	if one != want || open(t, 8).Run(wide) != want || open(t, 8).Run(strings.TrimSuffix(text, "\n")) != want || c.Run("") != "" || c.Run("\n\n") != "" {
		t.Error("one by one, blanks, the last end")
	}
}
