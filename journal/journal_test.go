package journal

import (
	"bytes"
	"reflect"
	"slices"
	"testing"

	"bailiwick/api"
	"bailiwick/sample"
	"bailiwick/script"
)

func empty() script.Script { return script.Script{Pages: 1, Programs: []string{""}} }

func begin(t *testing.T) string {
	t.Helper()
	j, e := Begin(empty())
	if e != api.OK {
		t.Fatal(e)
	}
	return j
}

// sums are the four bytes of a sum.
func sums(b string) string {
	n := Sum(b)
	return string([]byte{byte(n), byte(n >> 8), byte(n >> 16), byte(n >> 24)})
}

// P27.1, and the document's example.
func TestBegin(t *testing.T) {
	if Sum("") != 2166136261 || Sum("a") != 0xe40c292c || Sum("foobar") != 0xbf9cf968 {
		t.Error(Sum("a"))
	}
	if j := begin(t); j != "BLWK\x03\x00\x01\x01\x00"+sums("BLWK\x03\x00\x01\x01\x00") {
		t.Errorf("%x", j)
	}
	s := empty()
	s.Picks = []uint8{99}
	if j, e := Begin(s); j != begin(t) || e != api.OK {
		t.Error("its picks are left out", e)
	}
	if j, e := Begin(script.Script{}); j != "" || e != api.ErrForm {
		t.Error(e)
	}
}

// P27.2, P27.3
func TestAdd(t *testing.T) {
	head := begin(t)
	j, e := Add(head, []uint8{0, 8})
	rec := "\x02\x00\x08"
	rec += sums(head[len(head)-4:] + rec)
	if j != head+rec || e != api.OK {
		t.Errorf("%x %v", j, e)
	}
	k, _ := Add(j, []uint8{1})
	told, e := Read(k)
	if e != api.OK || !reflect.DeepEqual(told, Told{Script: script.Script{Pages: 1, Programs: []string{""}, Picks: []uint8{0, 8, 1}}, Bytes: len(k)}) {
		t.Error(told, e)
	}
	for _, x := range []struct {
		j string
		p []uint8
	}{{"", []uint8{0}}, {k, nil}, {k, make([]uint8, 201)}, {k, []uint8{9}}, {k + "x", []uint8{0}}, {k[:len(k)-1], []uint8{0}}, {head[:len(head)-1], []uint8{0}}} {
		if j, e := Add(x.j, x.p); j != "" || e != api.ErrForm {
			t.Errorf("%x %v", x.j, e)
		}
	}
	for range 19 {
		j, _ = Add(j, make([]uint8, 200))
	}
	if l, e := Add(j, make([]uint8, 199)); l != "" || e != api.ErrLimit {
		t.Error(e)
	}
	full, e := Add(j, make([]uint8, 198))
	if told, _ := Read(full); e != api.OK || len(told.Script.Picks) != 4000 || told.Torn {
		t.Error(e)
	}
	more := "\x01\x00"
	more += sums(full[len(full)-4:] + more)
	if told, e := Read(full + more); e != api.OK || len(told.Script.Picks) != 4000 || told.Bytes != len(full) || !told.Torn {
		t.Error("one too many", e)
	}
}

// P27.3: heads that are none, and records that are none.
func TestRead(t *testing.T) {
	head := begin(t)
	withPicks := "BLWK\x04\x00\x01\x01\x00\x00"
	noScript := "BLWK\x02\x00\x01\x01"
	for _, j := range []string{"", "B", "BLWK", "BLWK\xff\xff", "BLWX" + head[4:], head[:len(head)-1], withPicks + sums(withPicks), noScript + sums(noScript), head[:6] + "\x02" + head[7:]} {
		if told, e := Read(j); e != api.ErrForm || !reflect.DeepEqual(told, Told{}) {
			t.Errorf("%x %v", j, e)
		}
	}
	for _, rec := range []string{"\x00", "\xc9" + string(make([]byte, 201)), "\x01\x09", "\x02\x00\x18"} {
		rec += sums(head[len(head)-4:] + rec)
		if told, e := Read(head + rec); e != api.OK || !told.Torn || told.Bytes != len(head) || told.Script.Picks != nil {
			t.Errorf("%x %v", rec, told)
		}
	}
	told, _ := Read(head)
	told.Script.Programs[0] = "x"
	if told.Torn || told.Bytes != len(head) {
		t.Error(told)
	}
}

// P27.4, P27.5
func TestTorn(t *testing.T) {
	for seed := range 6 {
		g := sample.New(seed)
		s := g.Programs(2)
		j, _ := Begin(s)
		ends, picks := []int{len(j)}, [][]uint8{nil}
		for range 4 {
			var l []uint8
			for range 1 + g.N(20) {
				l = append(l, uint8(g.N(9)))
			}
			j, _ = Add(j, l)
			ends = append(ends, len(j))
			picks = append(picks, append(slices.Clone(picks[len(picks)-1]), l...))
		}
		for n := ends[0]; n <= len(j); n++ {
			k := 0
			for k+1 < len(ends) && ends[k+1] <= n {
				k++
			}
			told, e := Read(j[:n])
			if e != api.OK || !bytes.Equal(told.Script.Picks, picks[k]) || told.Bytes != ends[k] || told.Torn != (ends[k] < n) || !slices.Equal(told.Script.Programs, s.Programs) {
				t.Fatal(n, told, e)
			}
			if n == len(j) || slices.Contains(ends, n) {
				continue
			}
			b := []byte(j)
			b[n] ^= byte(1 + g.N(255))
			told, e = Read(string(b))
			if e != api.OK || !bytes.Equal(told.Script.Picks, picks[k]) || told.Bytes != ends[k] || !told.Torn {
				t.Fatal("another byte", n, told, e)
			}
		}
	}
}
