package runs

import (
	"math"
	"math/rand"
	"slices"
	"testing"

	"bailiwick/api"
)

// P1.1
func TestOf(t *testing.T) {
	for _, x := range []struct{ pages, count int }{{-5, 0}, {0, 0}, {1, 1}, {8, 8}, {63, 63}, {64, 64}, {65, 64}, {math.MaxInt, 64}, {math.MinInt, 0}} {
		r := Of(x.pages)
		if r.Count() != x.count || r.Has(x.count) || r.Has(-1) || (x.count > 0) != r.Has(0) || r.Has(64) {
			t.Error(x)
		}
		var want []Run
		if x.count > 0 {
			want = []Run{{0, x.count}}
		}
		if !slices.Equal(r.All(), want) {
			t.Error(x, r.All())
		}
	}
	r, _ := Of(8).Take(2, 3)
	if r.Mask() != 0b11100011 || r.Has(2) || !r.Has(1) || !r.Has(5) {
		t.Errorf("%b", r.Mask())
	}
	if (Runs{}).Mask() != 0 || len((Runs{}).All()) != 0 {
		t.Error("zero")
	}
}

// P1.2
func TestFind(t *testing.T) {
	r, _ := Of(8).Take(2, 3)
	for _, x := range []struct {
		n, at int
		ok    bool
	}{{1, 0, true}, {2, 0, true}, {3, 5, true}, {4, 0, false}, {0, 0, false}, {-1, 0, false}, {math.MaxInt, 0, false}} {
		if at, ok := r.Find(x.n); at != x.at || ok != x.ok {
			t.Error(x, at, ok)
		}
	}
}

// P1.3, and the document's example.
func TestTakeGive(t *testing.T) {
	r, _ := Of(8).Take(2, 3)
	s, ok := r.Give(3, 1)
	if !ok || !slices.Equal(s.All(), []Run{{0, 2}, {3, 1}, {5, 3}}) || r.Has(3) {
		t.Error(s.All())
	}
	for _, x := range []Run{{-1, 1}, {0, 0}, {0, -1}, {1, 2}, {2, 1}, {63, 2}, {64, 1}, {math.MaxInt, 1}, {1, math.MaxInt}, {math.MinInt, math.MinInt}} {
		if u, ok := r.Take(x.At, x.N); ok || u != r {
			t.Error("take", x)
		}
	}
	for _, x := range []Run{{-1, 1}, {2, 0}, {2, -1}, {1, 2}, {4, 2}, {63, 2}, {64, 1}, {math.MaxInt, 1}, {2, math.MaxInt}} {
		if u, ok := r.Give(x.At, x.N); ok || u != r {
			t.Error("give", x)
		}
	}
}

// P1.4: whatever was taken and given, the runs are those of the pages.
func TestOneWay(t *testing.T) {
	g := rand.New(rand.NewSource(1))
	var in [api.MaxPages]bool
	r := Runs{}
	for range 20000 {
		at, n := g.Intn(68)-2, g.Intn(9)-1
		lies, apart := may(at, n), may(at, n)
		for p := at; p < at+n && p < api.MaxPages && p >= 0; p++ {
			lies = lies && in[p]
			apart = apart && !in[p]
		}
		var ok bool
		before := r
		if g.Intn(2) == 0 {
			r, ok = r.Take(at, n)
			if ok != lies {
				t.Fatal("take", at, n)
			}
		} else if r, ok = r.Give(at, n); ok != apart {
			t.Fatal("give", at, n)
		}
		if !ok && r != before {
			t.Fatal("changed")
		}
		for p := at; ok && p < at+n; p++ {
			in[p] = !in[p]
		}
		if !slices.Equal(r.All(), slow(in)) {
			t.Fatal(r.All())
		}
	}
	r, _ = Of(20).Take(3, 5)
	back, _ := r.Give(3, 5)
	if back != Of(20) {
		t.Error("given back")
	}
}

func slow(in [api.MaxPages]bool) []Run {
	var l []Run
	for p, is := range in {
		if !is {
			continue
		}
		if k := len(l) - 1; k >= 0 && l[k].At+l[k].N == p {
			l[k].N++
		} else {
			l = append(l, Run{p, 1})
		}
	}
	return l
}

// P1.2, P1.3: the first page, the last one, and all.
func TestEnds(t *testing.T) {
	all := Of(64)
	for _, x := range []Run{{0, 1}, {63, 1}, {0, 64}, {1, 63}, {62, 2}} {
		r, ok := all.Take(x.At, x.N)
		back, is := r.Give(x.At, x.N)
		if !ok || r.Count() != 64-x.N || r.Has(x.At) || r.Has(x.At+x.N-1) || !is || back != all {
			t.Error(x, r.All())
		}
		if at, ok := all.Find(x.N); at != 0 || !ok {
			t.Error(x, at)
		}
	}
	if r, ok := (Runs{}).Give(0, 64); !ok || r != all || r.Mask() != math.MaxUint64 {
		t.Error(r.All())
	}
}
