package script

import (
	"math/rand"
	"reflect"
	"strings"
	"testing"

	"bailiwick/api"
)

const halt = "\x00\x00\x00\x00\x00\x00"

// P18.1, and the document's example.
func TestExample(t *testing.T) {
	s := Script{4, []string{halt}, []uint8{0, 8}}
	b, e := Encode(s)
	if b != "\x04\x01\x01\x00\x00\x00\x00\x00\x00\x00\x08" || e != api.OK || !s.May() {
		t.Errorf("%x", b)
	}
	if u, e := Decode(b); !reflect.DeepEqual(u, s) || e != api.OK {
		t.Error(u, e)
	}
}

// P18.1: what may be, and what may not.
func TestMay(t *testing.T) {
	for _, x := range []struct {
		s   Script
		may bool
	}{
		{Script{}, false}, {Script{1, nil, nil}, false}, {Script{1, []string{""}, nil}, true}, {Script{64, []string{""}, nil}, true}, {Script{65, []string{""}, nil}, false}, {Script{0, []string{""}, nil}, false}, {Script{-1, []string{""}, nil}, false},
		{Script{1, make([]string, 8), nil}, true}, {Script{1, make([]string, 9), nil}, false}, {Script{1, []string{"\x00"}, nil}, false}, {Script{1, []string{"", "\x07\x00\x00\x00\x00\x00"}, nil}, false},
		{Script{1, []string{strings.Repeat(halt, 64)}, nil}, true}, {Script{1, []string{strings.Repeat(halt, 65)}, nil}, false},
		{Script{1, []string{""}, make([]uint8, 4000)}, true}, {Script{1, []string{""}, make([]uint8, 4001)}, false},
	} {
		b, e := Encode(x.s)
		if x.s.May() != x.may || (e == api.OK) != x.may || e != api.OK && (e != api.ErrForm || b != "") {
			t.Error(x.s.Pages, len(x.s.Programs), len(x.s.Picks), e)
		}
	}
	for b := range 256 {
		may := b <= 8 || b >= 16 && b < 24
		if (Script{1, []string{""}, []uint8{0, uint8(b)}}).May() != may {
			t.Error(b)
		}
	}
	for _, b := range []string{"", "\x01", "\x01\x00", "\x00\x01\x00", "\x01\x01", "\x01\x01\x01", "\x01\x01\x01\x00\x00\x00\x00\x00", "\x01\x02\x00", "\x01\x01\x00\x09", "\x41\x01\x00", "\x01\x09" + strings.Repeat("\x00", 9), "\x01\xff\x00\x00", "\x01\x01\x41" + strings.Repeat(halt, 65), "\x01\x01\x00" + strings.Repeat("\x00", 4001)} {
		if s, e := Decode(b); e != api.ErrForm || !reflect.DeepEqual(s, Script{}) {
			t.Errorf("%x %v", b, e)
		}
	}
}

// P18.1: nothing behind the programs.
func TestNoPicks(t *testing.T) {
	if s, e := Decode("\x01\x01\x00"); e != api.OK || s.Pages != 1 || len(s.Programs) != 1 || len(s.Picks) != 0 {
		t.Error(s, e)
	}
	if s, e := Decode("\x40\x02\x00\x01" + halt); e != api.OK || s.Pages != 64 || s.Programs[1] != halt {
		t.Error(s, e)
	}
	if Reap != 8 || Slay != 16 {
		t.Error("numbers")
	}
}

// P18.2
func TestAnswer(t *testing.T) {
	g := rand.New(rand.NewSource(18))
	n := 0
	for range 50000 {
		b := make([]byte, g.Intn(24))
		for i := range b {
			b[i] = byte(g.Intn(9) * g.Intn(2))
		}
		s, e := Decode(string(b))
		if e != api.OK {
			continue
		}
		n++
		if c, e := Encode(s); c != string(b) || e != api.OK {
			t.Fatalf("%x %x", b, c)
		}
	}
	if n < 100 {
		t.Error("too few", n)
	}
}
