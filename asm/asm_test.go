package asm

import (
	"slices"
	"strings"
	"testing"

	"bailiwick/api"
	"bailiwick/code"
	"bailiwick/sample"
)

// P23.1, and the document's example.
func TestPrint(t *testing.T) {
	s, e := Print([]code.Instr{{Op: code.Set, N: 3}, {Op: code.Jump}, {Op: code.CallBase + 22, A: 1, B: 2, C: 7, N: 65535}, {Op: code.If, A: 1, N: 2}})
	want := "l0:\nset r0 r0 r0 3\njump r0 r0 r0 l0\nl2:\nspawn r1 r2 r7 65535\nif r1 r0 r0 l2\n"
	if s != want || e != api.OK {
		t.Error(s, e)
	}
	if s, e := Print(nil); s != "" || e != api.OK {
		t.Error(s, e)
	}
	for _, l := range [][]code.Instr{{{Op: 7}}, {{A: 8}}, {{Op: code.Jump, N: 1}}, make([]code.Instr, 65)} {
		if s, e := Print(l); s != "" || e != api.ErrForm {
			t.Error(l, s, e)
		}
	}
	for op := range 256 {
		w, ok := Word(uint8(op))
		if is := op <= 6 || op > 16 && op <= 38; ok != is || (w == "") == is {
			t.Error(op, w)
		}
	}
	for _, x := range []struct {
		op uint8
		w  string
	}{{0, "halt"}, {6, "if"}, {17, "new"}, {28, "lend"}, {32, "tryrecv"}, {38, "spawn"}} {
		if w, _ := Word(x.op); w != x.w {
			t.Error(x, w)
		}
	}
}

// P23.2
func TestParse(t *testing.T) {
	for _, x := range []struct {
		s string
		l []code.Instr
	}{
		{"", nil}, {"\n", nil}, {" \t \n;x:y;z\n\n", nil}, {"a:", nil}, {"a:\nb :;\n", nil},
		{"halt r0 r0 r0 0", []code.Instr{{}}}, {"halt r1 r2 r3 0\n", []code.Instr{{A: 1, B: 2, C: 3}}},
		{"\t a\t:halt  r1\tr2 r3 65535;c", []code.Instr{{A: 1, B: 2, C: 3, N: 65535}}},
		{"jump r0 r0 r0 end\nend: halt r0 r0 r0 1", []code.Instr{{Op: code.Jump, N: 1}, {N: 1}}},
		{"x:\n\ny: ;\nif r7 r0 r0 y\nif r7 r0 r0 x\njump r0 r0 r0 x", []code.Instr{{Op: code.If, A: 7}, {Op: code.If, A: 7}, {Op: code.Jump}}},
		{"halt:set r0 r0 r0 1\njump r0 r0 r0 halt", []code.Instr{{Op: code.Set, N: 1}, {Op: code.Jump}}},
		{"z: halt r7 r0 r0 0", []code.Instr{{A: 7}}}, {"az09: jump r0 r0 r0 az09", []code.Instr{{Op: code.Jump}}},
		{"abcdefg8: new r0 r0 r0 0", []code.Instr{{Op: 17}}},
	} {
		l, n, e := Parse(x.s)
		if !slices.Equal(l, x.l) || n != 0 || e != api.OK {
			t.Errorf("%q %v %v %v", x.s, l, n, e)
		}
	}
}

// P23.2: what is refused, and where.
func TestWrong(t *testing.T) {
	ok := "halt r0 r0 r0 0\n"
	for _, x := range []struct {
		s string
		n int
		e api.Errno
	}{
		{"halt r0 r0 r0", 1, api.ErrForm}, {"halt x0 r0 r0 0", 1, api.ErrForm}, {"halt r0 r r0 0", 1, api.ErrForm}, {"halt r0 r/ r0 0", 1, api.ErrForm}, {"halt r0 r0 r0 100000", 1, api.ErrForm}, {"halt r0 r0 r0 6553a", 1, api.ErrForm}, {"{a:", 1, api.ErrForm}, {"a{:", 1, api.ErrForm}, {"a/:", 1, api.ErrForm}, {"`:", 1, api.ErrForm},
		{ok + "halt r0 r0 r0 0 0", 2, api.ErrForm}, {"Halt r0 r0 r0 0", 1, api.ErrForm}, {"halt r8 r0 r0 0", 1, api.ErrForm},
		{"halt 0 r0 r0 0", 1, api.ErrForm}, {"halt r00 r0 r0 0", 1, api.ErrForm}, {"set r0 r0 r0 65536", 1, api.ErrForm}, {"set r0 r0 r0 01", 1, api.ErrForm}, {"set r0 r0 r0 00", 1, api.ErrForm},
		{"set r0 r0 r0 -1", 1, api.ErrForm}, {"set r0 r0 r0 x", 1, api.ErrForm}, {"x: set r0 r0 r0 x", 1, api.ErrForm}, {"set r0 r0 r0 99999999999999999999", 1, api.ErrForm},
		{":", 1, api.ErrForm}, {"1a:", 1, api.ErrForm}, {"A:", 1, api.ErrForm}, {"abcdefghi:", 1, api.ErrForm}, {"a b:", 1, api.ErrForm}, {"a_:", 1, api.ErrForm},
		{"a:\n\na:\n" + ok, 3, api.ErrForm}, {"a: b: " + ok, 1, api.ErrForm}, {"halt r0 r0 r0 0\r\n", 1, api.ErrForm}, {"\v", 1, api.ErrForm}, {"\u00a0", 1, api.ErrForm},
		{"jump r0 r0 r0 a\n" + ok, 1, api.ErrForm}, {ok + "jump r0 r0 r0 a\na:", 2, api.ErrForm}, {"jump r0 r0 r0 a\nhalt", 2, api.ErrForm},
		{"jump r0 r0 r0 1", 1, api.ErrForm}, {"a: jump r0 r0 r0 a\njump r0 r0 r0 9\njump r0 r0 r0 b", 2, api.ErrForm}, {"jump r0 r0 r0 abcdefghi", 1, api.ErrForm},
		{"jump r0 r0 r0 0", 1, api.ErrForm}, {ok + "if r1 r0 r0 0", 2, api.ErrForm}, {"a: jump r0 r0 r0 0\n", 1, api.ErrForm}, {ok + "if r0 r0 r0 65535\n", 2, api.ErrForm},
		{"jump r0 r0 r0 b\njump r0 r0 r0 0", 2, api.ErrForm}, {"jump r0 r0 r0 65536", 1, api.ErrForm}, {"jump r0 r0 r0 A", 1, api.ErrForm}, {"l0: if r0 r0 r0 l0:", 1, api.ErrForm},
		{strings.Repeat(ok, 65), 0, api.ErrLimit}, {strings.Repeat(ok, 70) + "jump r0 r0 r0 a", 71, api.ErrForm}, {strings.Repeat(ok, 70) + "jump r0 r0 r0 69", 71, api.ErrForm}, {strings.Repeat(ok, 70) + "a: jump r0 r0 r0 a", 0, api.ErrLimit}, {strings.Repeat(ok, 70) + "x", 71, api.ErrForm},
	} {
		l, n, e := Parse(x.s)
		if l != nil || n != x.n || e != x.e {
			t.Errorf("%q %v %v", x.s, n, e)
		}
	}
	if l, n, e := Parse(strings.Repeat(ok, 64)); len(l) != 64 || n != 0 || e != api.OK {
		t.Error(n, e)
	}
}

// P23.3, P23.4
func TestAnswer(t *testing.T) {
	for seed := range 100 {
		l, _ := code.Decode(sample.New(seed).Programs(3).Programs[seed%3])
		s, e := Print(l)
		m, n, f := Parse(s)
		if e != api.OK || f != api.OK || n != 0 || !slices.Equal(l, m) {
			t.Fatal(seed, e, f, n)
		}
		other := strings.ReplaceAll(s, "l", "q")
		for _, w := range words {
			other = strings.ReplaceAll(other, strings.ReplaceAll(w, "l", "q"), w)
		}
		other = "\n;\n" + strings.ReplaceAll(strings.ReplaceAll(other, " ", " \t "), "\n", " ; l0: x\n\n")
		if m, _, f := Parse(other); f != api.OK || !slices.Equal(l, m) {
			t.Fatal(f, other)
		}
	}
}
