package mail

import (
	"math/rand"
	"slices"
	"testing"

	"bailiwick/api"
)

// P11.1, P11.2, and the document's example.
func TestExample(t *testing.T) {
	var x Box
	a, b, c := Message{From: 1, Word: 2, Region: 3, Share: true}, Message{Word: 9}, Message{}
	x, e1 := x.Put(a)
	x, e2 := x.Put(b)
	x, m1, e3 := x.Take()
	x, e4 := x.Close()
	x, e5 := x.Put(c)
	x, m2, e6 := x.Take()
	x, m3, e7 := x.Take()
	if m1 != a || m2 != b || m3 != (Message{}) || !slices.Equal([]api.Errno{e1, e2, e3, e4, e5, e6, e7}, []api.Errno{0, 0, 0, 0, api.ErrClosed, 0, api.ErrClosed}) {
		t.Error(m1, m2, m3, e1, e2, e3, e4, e5, e6, e7)
	}
	if y, e := x.Close(); e != api.ErrClosed || y != x || !x.Closed() {
		t.Error(e)
	}
}

// P11.1, P11.2: what is refused, and boxes that are alike.
func TestEdges(t *testing.T) {
	var x Box
	if y, m, e := x.Take(); e != api.ErrEmpty || m != (Message{}) || y != x || x.Closed() || x.All() != nil {
		t.Error(e)
	}
	for i := range api.MaxMail {
		x, _ = x.Put(Message{Word: uint64(i)})
	}
	if y, e := x.Put(Message{}); e != api.ErrFull || y != x {
		t.Error(e)
	}
	x, _, _ = x.Take()
	x, _, _ = x.Take()
	var z Box
	z, _ = z.Put(Message{Word: 2})
	z, _ = z.Put(Message{Word: 3})
	if x != z || !slices.Equal(x.All(), []Message{{Word: 2}, {Word: 3}}) {
		t.Error(x, z)
	}
	y, l := x.Drain()
	if !y.Closed() || y.All() != nil || !slices.Equal(l, x.All()) {
		t.Error(l)
	}
	c, _ := (Box{}).Close()
	if c != y {
		t.Error("alike")
	}
	full, _ := x.Put(Message{})
	full, _ = full.Put(Message{})
	full, _ = full.Close()
	if _, e := full.Put(Message{}); e != api.ErrClosed || len(full.All()) != 4 {
		t.Error(e)
	}
}

// P11.3
func TestOrder(t *testing.T) {
	g := rand.New(rand.NewSource(11))
	var x Box
	var put, taken []uint64
	for i := range uint64(5000) {
		if g.Intn(2) == 0 {
			y, e := x.Put(Message{Word: i})
			if e == api.OK {
				put = append(put, i)
			}
			x = y
		} else if y, m, e := x.Take(); e == api.OK {
			taken = append(taken, m.Word)
			x = y
		}
		if len(x.All()) != len(put)-len(taken) {
			t.Fatal("count")
		}
	}
	if !slices.Equal(taken, put[:len(taken)]) {
		t.Error("order")
	}
}
