package code

import (
	"math/rand"
	"slices"
	"testing"

	"bailiwick/api"
)

// P13.1, and the document's example.
func TestExample(t *testing.T) {
	l := []Instr{{Op: Set, A: 2, N: 5}, {Op: Jump}}
	b, e := Encode(l)
	if b != "\x01\x02\x00\x00\x05\x00\x05\x00\x00\x00\x00\x00" || e != api.OK {
		t.Errorf("%x", b)
	}
	if m, e := Decode(b); !slices.Equal(m, l) || e != api.OK {
		t.Error(m, e)
	}
	if b, _ := Encode([]Instr{{Op: Set, N: 0x1234}}); b != "\x01\x00\x00\x00\x34\x12" {
		t.Errorf("%x", b)
	}
}

// P13.1: what is a program, and what is none.
func TestMay(t *testing.T) {
	long := make([]Instr, api.MaxCode+1)
	for _, x := range []struct {
		l   []Instr
		may bool
	}{
		{nil, true}, {long, false}, {long[:api.MaxCode], true},
		{[]Instr{{Op: If}}, true}, {[]Instr{{Op: 7}}, false}, {[]Instr{{Op: CallBase}}, false}, {[]Instr{{Op: CallBase + 1}}, true},
		{[]Instr{{Op: CallBase + Calls}}, true}, {[]Instr{{Op: CallBase + Calls + 1}}, false}, {[]Instr{{Op: 255}}, false},
		{[]Instr{{A: 7, B: 7, C: 7, N: 65535}}, true}, {[]Instr{{A: 8}}, false}, {[]Instr{{B: 8}}, false}, {[]Instr{{C: 255}}, false},
		{[]Instr{{Op: Jump, N: 1}}, false}, {[]Instr{{Op: If, N: 1}}, false}, {[]Instr{{Op: If, N: 1}, {}}, true}, {[]Instr{{Op: Jump, N: 2}, {}}, false},
	} {
		b, e := Encode(x.l)
		if May(x.l) != x.may || (e == api.OK) != x.may || e != api.OK && (e != api.ErrForm || b != "") {
			t.Error(x, e)
		}
	}
	if b, e := Encode(nil); b != "" || e != api.OK {
		t.Error(e)
	}
	for _, b := range []string{"\x00", "\x00\x00\x00\x00\x00", "\x00\x00\x00\x00\x00\x00\x00", "\x07\x00\x00\x00\x00\x00", "\x05\x00\x00\x00\x01\x00", "\x00\x08\x00\x00\x00\x00", string(make([]byte, 6*65)), string(make([]byte, 1<<20))} {
		if l, e := Decode(b); l != nil || e != api.ErrForm {
			t.Errorf("%x %v", b, e)
		}
	}
	if l, e := Decode(""); len(l) != 0 || e != api.OK {
		t.Error(e)
	}
}

// P13.1: the numbers of operations, and the longest program.
func TestNumbers(t *testing.T) {
	if Halt != 0 || Set != 1 || Add != 2 || Sub != 3 || Shift != 4 || Jump != 5 || If != 6 || CallBase != 16 || Calls != 22 {
		t.Error("numbers")
	}
	if l, e := Decode(string(make([]byte, 6*api.MaxCode))); len(l) != api.MaxCode || e != api.OK {
		t.Error(len(l), e)
	}
}

// P13.2
func TestAnswer(t *testing.T) {
	g := rand.New(rand.NewSource(13))
	for range 20000 {
		b := make([]byte, 6*g.Intn(4))
		for i := range b {
			b[i] = byte(g.Intn(10))
			if i%6 == 0 {
				b[i] = byte(g.Intn(42))
			}
			if i%6 == 5 {
				b[i] = byte(g.Intn(12) / 11)
			}
		}
		l, e := Decode(string(b))
		if e != api.OK {
			continue
		}
		if c, e := Encode(l); c != string(b) || e != api.OK {
			t.Fatal(b)
		}
		for _, x := range l {
			if (x.Op == Jump || x.Op == If) && int(x.N) >= len(l) {
				t.Fatal(l)
			}
		}
	}
}
