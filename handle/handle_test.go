package handle

import (
	"math"
	"math/rand"
	"slices"
	"testing"

	"bailiwick/api"
)

// P3.2, and the document's example.
func TestIssue(t *testing.T) {
	var b Book
	b, x, _ := b.Issue()
	b, y, _ := b.Issue()
	b, ok := b.Void(1)
	b, z, is := b.Issue()
	if x != 1 || y != 2 || !ok || z != 257 || !is {
		t.Error(x, y, ok, z)
	}
	for _, h := range []Handle{0, 1, 3, 33, 256, 513, math.MaxUint32} {
		if c, ok := b.Void(h); ok || c != b {
			t.Error("void", h)
		}
	}
	for range 30 {
		b, _, is = b.Issue()
	}
	if c, h, ok := b.Issue(); !is || ok || h != 0 || c != b {
		t.Error("full", h)
	}
}

// P3.1
func TestLooks(t *testing.T) {
	for _, x := range []struct {
		h    Handle
		slot int
		ok   bool
	}{{0, 0, false}, {1, 0, true}, {32, 31, true}, {33, 0, false}, {256, 0, false}, {257, 0, true}, {256*Last + 32, 31, true}, {256*Last + 33, 0, false}, {256*(Last+1) + 1, 0, false}, {math.MaxUint32, 0, false}} {
		if s, ok := x.h.Slot(); s != x.slot || ok != x.ok {
			t.Error(x, s, ok)
		}
	}
	var b Book
	b, _, _ = b.Issue()
	b, _, _ = b.Issue()
	b, _, _ = b.Issue()
	b, _ = b.Void(2)
	if !b.Good(1) || b.Good(2) || b.Good(258) || b.Good(0) || b.Good(257) || b.Good(3+256) || !slices.Equal(b.Issued(), []Handle{1, 3}) {
		t.Error(b.Issued())
	}
	for _, x := range []struct {
		slot int
		h    Handle
	}{{0, 1}, {1, 0}, {2, 3}, {-1, 0}, {32, 0}, {math.MaxInt, 0}} {
		if h, ok := b.At(x.slot); h != x.h || ok != (x.h != 0) {
			t.Error(x, h)
		}
	}
	if (Book{}).Issued() != nil {
		t.Error("zero")
	}
}

// P3.3, and what is retired.
func TestAged(t *testing.T) {
	b := Aged([]uint32{Last, 5, math.MaxUint32})
	b, x, _ := b.Issue()
	b, y, _ := b.Issue()
	b, z, _ := b.Issue()
	b, w, _ := b.Issue()
	if x != 256*Last+1 || y != 256*5+2 || z != 256*Last+3 || w != 4 {
		t.Error(x, y, z, w)
	}
	b, ok := b.Void(x)
	if b2, h, _ := b.Issue(); !ok || b.Good(x) || h != 5 || b2.Good(x) {
		t.Error("retired", h)
	}
	if _, again := b.Void(x); again {
		t.Error("voided twice")
	}
	if Aged(make([]uint32, 100)) != (Book{}) || Aged(nil) != (Book{}) {
		t.Error("long")
	}
}

// Limits
func TestLast(t *testing.T) {
	if Last != 8388607 {
		t.Error(Last)
	}
}

// P3.4
func TestNeverTwice(t *testing.T) {
	g := rand.New(rand.NewSource(3))
	var ages []uint32
	for range api.MaxRegions {
		ages = append(ages, uint32(Last-g.Intn(40)))
	}
	b := Aged(ages)
	seen := map[Handle]bool{}
	var gone []Handle
	for range 5000 {
		if g.Intn(2) == 0 {
			c, h, ok := b.Issue()
			if ok && seen[h] {
				t.Fatal("issued twice", h)
			}
			if ok {
				seen[h] = true
			}
			b = c
		} else if l := b.Issued(); len(l) > 0 {
			h := l[g.Intn(len(l))]
			b, _ = b.Void(h)
			gone = append(gone, h)
		}
	}
	for _, h := range gone {
		if b.Good(h) {
			t.Fatal("good again", h)
		}
	}
}
