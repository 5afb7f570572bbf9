package token

import (
	"math"
	"math/rand"
	"slices"
	"testing"

	"bailiwick/api"
	"bailiwick/handle"
)

type hs = []handle.Handle

func lend(t *testing.T, k Tokens, x Token) (Tokens, handle.Handle) {
	t.Helper()
	k, h, e := k.Lend(x)
	if e != api.OK {
		t.Fatal(x, e)
	}
	return k, h
}

// P9.1, P9.2, P9.3, and the document's example.
func TestExample(t *testing.T) {
	var k Tokens
	k, a := lend(t, k, Token{1, 0, 1, true, 0})
	k, b := lend(t, k, Token{1, 1, 2, false, a})
	if a != 1 || b != 2 || k.Writes(1, a) || !k.Reads(1, a) || k.Reads(1, 0) || k.Writes(1, 0) || !k.Reads(1, b) || !k.Writes(1, b) {
		t.Error(a, b)
	}
	if x, e := k.Get(b); x != (Token{1, 1, 2, false, 1}) || e != api.OK {
		t.Error(x, e)
	}
	l, gone, e := k.Return(a)
	if e != api.OK || !slices.Equal(gone, hs{1, 2}) || l.On(1) != nil {
		t.Error(gone, e)
	}
	l, gone, e = k.Return(b)
	if e != api.OK || !slices.Equal(gone, hs{2}) || !slices.Equal(l.On(1), hs{1}) || !l.Writes(1, a) {
		t.Error(gone, e)
	}
}

// P9.1: what is refused, in order.
func TestWrong(t *testing.T) {
	var k Tokens
	k, a := lend(t, k, Token{1, 0, 1, true, 0})
	k, b := lend(t, k, Token{2, 0, 1, false, 0})
	for _, c := range []struct {
		x Token
		e api.Errno
	}{
		{Token{0, 9, 9, true, 77}, api.ErrStale}, {Token{1, 1, 1, true, 257}, api.ErrStale},
		{Token{1, 8, 1, false, 0}, api.ErrArg}, {Token{1, 1, 8, false, a}, api.ErrArg}, {Token{1, 1, 1, false, a}, api.ErrArg}, {Token{0, 1, 2, false, a}, api.ErrArg},
		{Token{2, 1, 2, false, a}, api.ErrState}, {Token{1, 0, 2, false, a}, api.ErrState}, {Token{2, 1, 2, true, b}, api.ErrState},
		{Token{1, 0, 2, false, 0}, api.ErrAccess}, {Token{2, 0, 2, true, 0}, api.ErrAccess},
		{Token{2, 0, 2, false, 0}, api.OK}, {Token{2, 1, 2, false, b}, api.OK}, {Token{1, 1, 2, true, a}, api.OK}, {Token{math.MaxUint32, 1, 2, true, 0}, api.OK},
	} {
		l, h, e := k.Lend(c.x)
		if e != c.e || (e != api.OK) != (h == 0) || e != api.OK && l != k {
			t.Error(c, h, e)
		}
	}
	for _, h := range (hs{0, 3, 257, math.MaxUint32}) {
		x, e := k.Get(h)
		l, gone, f := k.Return(h)
		if x != (Token{}) || e != api.ErrStale || f != api.ErrStale || gone != nil || l != k {
			t.Error(h)
		}
	}
}

// P9.1: no more than MaxTokens, and equal if alike.
func TestFull(t *testing.T) {
	var k Tokens
	for i := range api.MaxTokens {
		k, _ = lend(t, k, Token{handle.Handle(i + 1), 0, 1, false, 0})
	}
	full := k
	if l, h, e := k.Lend(Token{99, 0, 1, false, 0}); e != api.ErrFull || h != 0 || l != full {
		t.Error(h, e)
	}
	if _, _, e := k.Lend(Token{1, 0, 1, true, 0}); e != api.ErrAccess {
		t.Error(e)
	}
	k, _, _ = k.Return(5)
	k, h := lend(t, k, Token{99, 0, 1, false, 0})
	if h != 261 {
		t.Error(h)
	}
	var a, b Tokens
	a, h = lend(t, a, Token{1, 0, 1, true, 0})
	a, _, _ = a.Return(h)
	b, h = lend(t, b, Token{2, 3, 4, false, 0})
	b = b.Clear(2)
	if a != b || !a.Reads(1, 0) || a.Reads(1, h) || a.Writes(1, h) {
		t.Error("alike")
	}
}

// P9.2, P9.3
func TestLists(t *testing.T) {
	var k Tokens
	k, a := lend(t, k, Token{7, 0, 1, false, 0})
	k, b := lend(t, k, Token{8, 0, 1, true, 0})
	k, c := lend(t, k, Token{7, 1, 2, false, a})
	k, d := lend(t, k, Token{7, 0, 2, false, 0})
	if !slices.Equal(k.On(7), hs{a, c, d}) || !slices.Equal(k.Of(1), hs{a, b}) || !slices.Equal(k.Of(2), hs{c, d}) || k.Of(0) != nil || k.Of(257) != nil || k.Of(-1) != nil || k.On(0) != nil {
		t.Error(k.On(7), k.Of(1))
	}
	if !k.Reads(7, 0) || k.Writes(7, 0) || !k.Reads(7, a) || k.Writes(7, a) || k.Reads(8, 0) || !k.Writes(8, b) {
		t.Error("reads")
	}
	l := k.Clear(7)
	if l.On(7) != nil || !slices.Equal(l.On(8), hs{b}) || k.Clear(9) != k {
		t.Error("clear")
	}
}

// P9.4: at most one may write, and nobody else reads then.
func TestOneWrites(t *testing.T) {
	g := rand.New(rand.NewSource(9))
	var k Tokens
	for range 20000 {
		switch g.Intn(5) {
		case 0:
			k, _, _ = k.Return(handle.Handle(g.Intn(16) + 1 + 256*g.Intn(3)))
		case 1:
			if g.Intn(9) == 0 {
				k = k.Clear(handle.Handle(g.Intn(3)))
			}
		default:
			x := Token{handle.Handle(g.Intn(3)), uint8(g.Intn(4)), uint8(g.Intn(4)), g.Intn(2) == 0, 0}
			if l := k.On(x.Region); len(l) > 0 && g.Intn(3) > 0 {
				x.Above = l[g.Intn(len(l))]
			}
			k, _, _ = k.Lend(x)
		}
		for region := handle.Handle(1); region < 3; region++ {
			writers, readers := 0, 0
			for _, h := range append(k.On(region), 0) {
				x, _ := k.Get(h)
				if (h == 0 || x.Mutable) && k.Writes(region, h) {
					writers++
				}
				if k.Reads(region, h) {
					readers++
				}
			}
			if writers > 1 || writers == 1 && readers != 1 {
				t.Fatal(region, writers, readers)
			}
		}
	}
}
