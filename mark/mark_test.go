package mark

import (
	"math"
	"math/rand"
	"slices"
	"testing"

	"bailiwick/api"
)

// P15.1, and the document's example.
func TestExample(t *testing.T) {
	var m Marks
	m, a := m.Try(0, 1)
	m, b := m.Try(0, 2)
	m, c := m.Try(0, 3)
	if h, ok := m.Holder(0); h != 1 || !ok || !slices.Equal(m.Waiting(0), []int{2, 3}) {
		t.Error(h, m.Waiting(0))
	}
	m = m.Free(0, 1)
	m, d := m.Try(0, 3)
	m, e := m.Try(0, 2)
	if !a || b || c || d || !e || !slices.Equal(m.Waiting(0), []int{3}) {
		t.Error(a, b, c, d, e, m.Waiting(0))
	}
	again, ok := m.Try(0, 2)
	if !ok || again != m {
		t.Error("it has it")
	}
	again, ok = m.Try(0, 3)
	if ok || again != m {
		t.Error("it waits once")
	}
}

// P15.2, P15.3
func TestGone(t *testing.T) {
	var m Marks
	m, _ = m.Try(5, 1)
	m, _ = m.Try(2, 1)
	m, _ = m.Try(5, 2)
	m, _ = m.Try(5, 0)
	m, _ = m.Try(5, 3)
	m, _ = m.Try(7, 0)
	if !slices.Equal(m.Held(1), []int{2, 5}) || m.Held(2) != nil {
		t.Error(m.Held(1))
	}
	if m.Free(5, 2) != m || m.Free(6, 1) != m {
		t.Error("it did not have it")
	}
	g := m.Gone(0)
	if !slices.Equal(g.Waiting(5), []int{2, 3}) || g.Held(0) != nil || !slices.Equal(g.Held(1), []int{2, 5}) {
		t.Error(g.Waiting(5))
	}
	g = m.Gone(1)
	if h, ok := g.Holder(5); h != 0 || ok || !slices.Equal(g.Waiting(5), []int{2, 0, 3}) {
		t.Error(h, ok)
	}
	for task := range api.MaxTasks {
		g = g.Gone(task)
	}
	if g != (Marks{}) {
		t.Error("alike")
	}
	for _, s := range []int{-1, 32, math.MaxInt, math.MinInt} {
		x, ok := m.Try(s, 1)
		h, is := m.Holder(s)
		if ok || x != m || m.Free(s, 1) != m || h != 0 || is || m.Waiting(s) != nil {
			t.Error(s)
		}
	}
	for _, k := range []int{-1, 8, 257, math.MaxInt, math.MinInt} {
		x, ok := m.Try(9, k)
		if ok || x != m || m.Free(5, k) != m || m.Gone(k) != m || m.Held(k) != nil {
			t.Error(k)
		}
	}
}

// P15.4
func TestTurns(t *testing.T) {
	g := rand.New(rand.NewSource(15))
	var m Marks
	var queue []int
	for range 20000 {
		k := g.Intn(api.MaxTasks)
		h, has := m.Holder(3)
		switch g.Intn(4) {
		case 0:
			if g.Intn(5) == 0 {
				m = m.Gone(k)
				queue = slices.DeleteFunc(queue, func(x int) bool { return x == k })
			}
		case 1:
			m = m.Free(3, k)
		default:
			next, ok := m.Try(3, k)
			if has && ok != (h == k) || !has && ok != (len(queue) == 0 || queue[0] == k) {
				t.Fatal("try", k, ok)
			}
			queue = slices.DeleteFunc(queue, func(x int) bool { return x == k && ok })
			if !ok && !slices.Contains(queue, k) {
				queue = append(queue, k)
			}
			m = next
		}
		h, has = m.Holder(3)
		if !slices.Equal(m.Waiting(3), queue) || has && slices.Contains(queue, h) {
			t.Fatal(m.Waiting(3), queue)
		}
	}
}
