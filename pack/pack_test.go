package pack

import (
	"reflect"
	"slices"
	"strings"
	"testing"

	"bailiwick/api"
	"bailiwick/clone"
	"bailiwick/dict"
	"bailiwick/forest"
	"bailiwick/handle"
	"bailiwick/journal"
	"bailiwick/mem"
	"bailiwick/model"
	"bailiwick/sample"
	"bailiwick/shape"
)

const zeros = "\x00\x00\x00\x00\x00\x00\x00\x00"

func open(t *testing.T, pages int) *mem.Mem {
	t.Helper()
	m, e := mem.Open(pages)
	if e != api.OK {
		t.Fatal(e)
	}
	return m
}

func do(t *testing.T, m *mem.Mem, c model.Call) handle.Handle {
	t.Helper()
	r := m.Call(c)
	if r.E != api.OK {
		t.Fatal(c, r)
	}
	return r.W
}

// P40.1, P40.2, P40.3, and the document's example.
func TestExample(t *testing.T) {
	m := open(t, 20)
	r := do(t, m, model.Call{Do: model.New, A: 2})
	b, e := Pack(m, r)
	if want := "BWPK\x01\x00\x02\x00\x00" + zeros; b != want+sum(want) || e != api.OK {
		t.Errorf("%x %v", b, e)
	}
	n := journal.Sum(b[:len(b)-4])
	if b[len(b)-4:] != string([]byte{byte(n), byte(n >> 8), byte(n >> 16), byte(n >> 24)}) {
		t.Errorf("the lowest first: %x %x", n, b)
	}
	if i, e := Tell(b); i != (Info{1, 0, 0}) || e != api.OK {
		t.Error(i, e)
	}
	k := do(t, m, model.Call{Do: model.New, R: r, A: 9})
	l := do(t, m, model.Call{Do: model.New, R: r, A: 0})
	do(t, m, model.Call{Do: model.New, R: k, A: 1})
	f := do(t, m, model.Call{Do: model.New})
	do(t, m, model.Call{Do: model.Freeze, R: f})
	m.Alloc(k, 33, 1)
	m.Alloc(k, 60, 1)
	m.Put(k, 64, []byte("ab"))
	for i, to := range []handle.Handle{r, k, f} {
		do(t, m, model.Call{Do: model.Ref, R: k, S: to, A: uint32(i)})
	}
	do(t, m, model.Call{Do: model.Ref, R: l, S: r, A: 7})
	b, e = Pack(m, r)
	want := "BWPK\x04\x00\x02\x00\x00" + zeros + "\x00\x09\x02\x02\x02\x3c" + strings.Repeat("\x00", 64) + "ab" + strings.Repeat("\x00", 58) + "\x01\x02\x00\x00\x00\x00\x00\x00" +
		"\x01\x01\x00\x00" + zeros + "\x00\x00\x00\x00\x00\x00\x00\x00\x00\x00\x00\x01"
	if b != want+sum(want) || e != api.OK {
		t.Errorf("%x\n%x %v", b, want, e)
	}
	if i, e := Tell(b); i != (Info{4, 4, 124}) || e != api.OK {
		t.Error(i, e)
	}
	u, e := Unpack(m, 0, b)
	if c, _ := Pack(m, u); e != api.OK || c != b {
		t.Error(e)
	}
	u, e = Unpack(m, r, b)
	if c, _ := Pack(m, u); e != api.OK || c != b || !forest.Outlives(m.Core().S.T, r, u) {
		t.Error(e)
	}
}

// summed are bytes, of regions that are told, that have their sum.
func summed(n byte, parts ...string) string {
	b := "BWPK" + string([]byte{n}) + strings.Join(parts, "")
	return b + sum(b)
}

// P40.2: what may not be.
func TestTell(t *testing.T) {
	root := "\x00\x01\x00\x00" + zeros
	kid := func(up byte) string { return string([]byte{up}) + root[1:] }
	cell := func(c byte) string { return root[:4] + "\x00\x00\x00" + string([]byte{c}) + "\x00\x00\x00\x00" }
	for i, b := range []string{
		summed(0), summed(0, root), summed(2, root), summed(1, root, root), summed(1, root, "x"), summed(33, root, strings.Repeat(root, 32)), summed(1, kid(1)), summed(2, root, kid(1)),
		summed(4, root, kid(0), kid(0), kid(1)), summed(7, root, kid(0), kid(1), kid(2), kid(3), kid(4), kid(5)),
		summed(1, "\x00\x41\x00\x00"+zeros), summed(1, "\x00\x00\x01\x01\x01x"+zeros), summed(1, "\x00\x09\x01\x00\x00"+zeros), summed(1, "\x00\x09\x01\x05\x81"+strings.Repeat("x", 129)+zeros),
		summed(1, "\x00\x09\x01\x01\x00"+zeros), summed(1, "\x00\x09\x01\x01\x21"+strings.Repeat("x", 33)+zeros), summed(1, "\x00\x09\x01\x02\x20"+strings.Repeat("x", 32)+zeros), summed(1, "\x00\x09\x00\x01x"+zeros),
		summed(1, cell(2)), summed(2, root, cell(3)), summed(3, root, kid(0), "\x00"+cell(2)[1:]), summed(1, root[:9]), "XWPK" + summed(1, root)[4:17] + sum("XWPK"+summed(1, root)[4:17]),
	} {
		if x, e := Tell(b); x != (Info{}) || e != api.ErrForm {
			t.Errorf("%d %x %v %v", i, b, x, e)
		}
		if h, e := Unpack(open(t, 4), 0, b); h != 0 || e != api.ErrForm {
			t.Error(i, e)
		}
	}
	for _, b := range []string{
		summed(1, root), summed(3, root, kid(0), kid(0)), summed(3, root, kid(0), kid(1)), summed(6, root, kid(0), kid(1), kid(2), kid(3), kid(4)), summed(32, strings.Repeat(root, 32)), summed(1, cell(1)), summed(2, root, cell(2)), summed(2, root, cell(1)),
		summed(1, "\x00\x40\x02\x01\x04\x80"+strings.Repeat("x", 160)+zeros), summed(1, "\x00\x01\x01\x01\x01x"+zeros), summed(1, "\x00\x03\x02\x01\x02\x21"+strings.Repeat("x", 65)+zeros),
	} {
		if _, e := Tell(b); e != api.OK {
			t.Errorf("%x %v", b, e)
		}
		m := open(t, 64)
		h, e := Unpack(m, 0, b)
		c, f := Pack(m, h)
		if e != api.OK || f != api.OK || c != b {
			t.Errorf("%x %x %v %v", b, c, e, f)
		}
	}
	for _, b := range []string{"", "BWPK", "12345678", summed(1, root)[:8]} {
		if _, e := Tell(b); e != api.ErrForm {
			t.Error(e)
		}
	}
	for _, b := range []string{"123456789", summed(1, root) + "x", summed(1, root)[1:]} {
		if _, e := Tell(b); e != api.ErrRange {
			t.Error(e)
		}
	}
}

// P40.1, P40.3: what is refused, in order.
func TestWrong(t *testing.T) {
	m := open(t, 9)
	do(t, m, model.Call{Do: model.Spawn, A: 1})
	r := do(t, m, model.Call{Do: model.New, A: 9})
	m.Alloc(r, 128, 1)
	other, _ := m.As(1)
	mine := do(t, other, model.Call{Do: model.New, A: 1})
	dead, _ := m.As(5)
	b, _ := Pack(m, r)
	for _, x := range []struct {
		m *mem.Mem
		r handle.Handle
		e api.Errno
	}{{nil, r, api.ErrNil}, {dead, 99, api.ErrState}, {m, 99, api.ErrStale}, {m, 0, api.ErrStale}, {m, mine, api.ErrAccess}} {
		if c, e := Pack(x.m, x.r); c != "" || e != x.e {
			t.Error(x, e)
		}
	}
	for _, x := range []struct {
		m  *mem.Mem
		up handle.Handle
		b  string
		e  api.Errno
	}{{nil, 99, "", api.ErrNil}, {dead, 99, "", api.ErrForm}, {dead, 99, b[1:], api.ErrRange}, {dead, 99, b, api.ErrState}, {m, 99, b, api.ErrStale}, {m, mine, b, api.ErrAccess}} {
		before := m.Core().S
		if c, e := Unpack(x.m, x.up, x.b); c != 0 || e != x.e || !reflect.DeepEqual(before, m.Core().S) {
			t.Error(x, e)
		}
	}
	do(t, m, model.Call{Do: model.New, A: 9})
	m.Alloc(m.Core().S.T.All()[2], 90, 1)
	before := m.Core().S.T.All()
	if c, e := Unpack(m, 0, b); c != 0 || e != api.ErrMem || !slices.Equal(before, m.Core().S.T.All()) {
		t.Error(e)
	}
	// A cell of a kid, that calls never make.
	parts := []shape.Part{{}, {}}
	parts[0].Cells[3].Place = 2
	if mayCells(parts, 0) || !mayCells(parts, 1) {
		t.Error("a cell of one below")
	}
}

// P40.4, P40.5, P8 of the whole
func TestElsewhere(t *testing.T) {
	n := 0
	for seed := range 30 {
		g := sample.New(seed)
		m := open(t, 64)
		for range 60 {
			c := g.Call(m.Core().S, 0)
			if c.Do != model.Exit && c.Do != model.Kill {
				m.Call(c)
			}
		}
		for _, h := range m.Core().S.T.All() {
			b, e := Pack(m, h)
			if e != api.OK {
				continue
			}
			n++
			k := open(t, 64)
			do(t, k, model.Call{Do: model.New})
			u, e := Unpack(k, 0, b)
			c, f := Pack(k, u)
			if e != api.OK || f != api.OK || c != b {
				t.Fatal("the same bytes", e, f)
			}
			again, _ := clone.Copy(k, u, 0)
			if d, _ := Pack(k, again); d != b {
				t.Fatal("a copy's")
			}
			x := []byte(b)
			x[g.N(len(x))] ^= byte(1 + g.N(255))
			if _, e := Tell(string(x)); e == api.OK {
				t.Fatal("another byte is told")
			}
		}
	}
	if n < 50 {
		t.Error("too few", n)
	}
	m := open(t, 64)
	r := do(t, m, model.Call{Do: model.New, A: 20})
	d, _ := dict.Make(m, r)
	for i := range uint64(12) {
		d.Put(i*7, i)
	}
	b, _ := Pack(m, r)
	k := open(t, 64)
	u, _ := Unpack(k, 0, b)
	x, _ := d.All()
	y, e := dict.Dict{M: k, R: u, At: d.At}.All()
	if !slices.Equal(x, y) || e != api.OK || len(y) != 12 || journal.Sum("") == 0 {
		t.Error(y, e)
	}
}
