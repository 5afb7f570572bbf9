package pool

import (
	"math"
	"math/rand"
	"slices"
	"testing"

	"bailiwick/api"
	"bailiwick/runs"
)

func open(t *testing.T, pages int) *Pool {
	t.Helper()
	p, e := New(pages)
	if e != api.OK {
		t.Fatal(e)
	}
	return p
}

// P2.1, and the document's example.
func TestClaim(t *testing.T) {
	p := open(t, 4)
	var got []int
	claim := func(n int) {
		at, e := p.Claim(n)
		got = append(got, at, int(e))
	}
	claim(2)
	claim(1)
	got = append(got, int(p.Back(0)))
	claim(2)
	claim(1)
	if !slices.Equal(got, []int{0, 0, 2, 0, 0, 0, int(api.ErrMem), 0, 0}) {
		t.Error(got)
	}
	for _, n := range []int{0, -1, math.MinInt} {
		if at, e := p.Claim(n); at != 0 || e != api.ErrArg {
			t.Error(n, at, e)
		}
	}
	if at, e := p.Claim(math.MaxInt); at != 0 || e != api.ErrMem {
		t.Error(at, e)
	}
	for _, n := range []int{0, -1, 65, math.MaxInt} {
		if q, e := New(n); q != nil || e != api.ErrArg {
			t.Error(n, e)
		}
	}
	if open(t, 64).Pages() != 64 || open(t, 1).Pages() != 1 {
		t.Error("pages")
	}
}

// P2.1, P2.2: what is refused, in the order of the errors.
func TestWrong(t *testing.T) {
	p := open(t, 2)
	p.Claim(1)
	for _, x := range []struct {
		page int
		e    api.Errno
	}{{-1, api.ErrArg}, {2, api.ErrArg}, {64, api.ErrArg}, {math.MaxInt, api.ErrArg}, {math.MinInt, api.ErrArg}, {1, api.ErrState}} {
		if e := p.Clear(x.page); e != x.e {
			t.Error("clear", x, e)
		}
		if e := p.Back(x.page); e != x.e {
			t.Error("back", x, e)
		}
	}
	for _, x := range []struct {
		at int
		e  api.Errno
	}{{-1, api.ErrArg}, {-32, api.ErrArg}, {64, api.ErrArg}, {math.MinInt, api.ErrArg}, {math.MaxInt, api.ErrArg}, {32, api.ErrState}, {31, api.OK}} {
		if b, e := p.Read(x.at); e != x.e || b != 0 {
			t.Error("read", x, e)
		}
		if e := p.Write(x.at, 0); e != x.e {
			t.Error("write", x, e)
		}
	}
}

// P2.2
func TestBytes(t *testing.T) {
	p := open(t, 3)
	p.Claim(2)
	for at := range 64 {
		if b, _ := p.Read(at); b != 0 {
			t.Fatal("not 0 at first")
		}
		p.Write(at, byte(at+1))
	}
	p.Clear(0)
	for at := range 64 {
		want := byte(at + 1)
		if at < 32 {
			want = 0
		}
		if b, e := p.Read(at); b != want || e != api.OK {
			t.Fatal(at, b)
		}
	}
	p.Back(1)
	p.Claim(1)
	if b, _ := p.Read(40); b != 41 {
		t.Error("claim and back change no bytes")
	}
}

// P2.3, and nil pools.
func TestLooks(t *testing.T) {
	p := open(t, 5)
	p.Claim(2)
	if p.Pages() != 5 || !slices.Equal(p.Free().All(), []runs.Run{{At: 2, N: 3}}) {
		t.Error(p.Free().All())
	}
	var n *Pool
	if n.Pages() != 0 || n.Free().Count() != 0 {
		t.Error("nil looks")
	}
	at, e1 := n.Claim(0)
	if at != 0 {
		t.Error(at)
	}
	_, e2 := n.Read(-1)
	for _, e := range []api.Errno{e1, e2, n.Clear(-1), n.Back(-1), n.Write(-1, 0)} {
		if e != api.ErrNil {
			t.Error(e)
		}
	}
}

// P2.4: no page is lent out twice, and what was written stays.
func TestStays(t *testing.T) {
	g := rand.New(rand.NewSource(2))
	p := open(t, 16)
	lent := map[int]byte{}
	for i := range 5000 {
		if g.Intn(2) == 0 {
			n := 1 + g.Intn(4)
			at, e := p.Claim(n)
			for q := at; e == api.OK && q < at+n; q++ {
				if _, was := lent[q]; was {
					t.Fatal("lent out twice", q)
				}
				lent[q] = byte(i)
				p.Write(q*api.Page+7, byte(i))
			}
		} else if q := g.Intn(16); p.Back(q) == api.OK {
			delete(lent, q)
		}
		for q, b := range lent {
			if got, e := p.Read(q*api.Page + 7); got != b || e != api.OK {
				t.Fatal(q, got, b)
			}
		}
		if p.Free().Count() != 16-len(lent) {
			t.Fatal("free")
		}
	}
	for q := range 16 {
		p.Back(q)
	}
	if !slices.Equal(p.Free().All(), []runs.Run{{At: 0, N: 16}}) {
		t.Error("one run")
	}
}
