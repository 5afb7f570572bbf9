package dict

import "bailiwick/api"

// Where a head's words stand in it.
const (
	top   = 0
	count = 8
	spare = 16
)

// Where a node's words stand in it.
const (
	keyOf = 0
	valOf = 8
	left  = 16
	right = 24
)

// thrown is what goes wrong.
type thrown struct{ e api.Errno }

func check(e api.Errno) {
	if e != api.OK {
		panic(thrown{e})
	}
}

// tree is a map while something is done with it, and how many nodes were gone through on the way that is gone by now.
type tree struct {
	Dict
	met int
}

// do does something with a map; the first error ends it.
func (d Dict) do(what func(*tree)) (e api.Errno) {
	defer func() {
		if x := recover(); x != nil {
			t, ok := x.(thrown)
			if !ok {
				panic(x)
			}
			e = t.e
		}
	}()
	if d.M == nil {
		return api.ErrNil
	}
	what(&tree{Dict: d})
	return api.OK
}

func (t *tree) word(at int) uint64 {
	v, e := t.M.Word(t.R, at)
	check(e)
	return v
}

func (t *tree) set(at int, v uint64) { check(t.M.Set(t.R, at, v)) }

func (t *tree) add(n int) { t.set(t.At+count, t.word(t.At+count)+uint64(n)) }

func (t *tree) pair(at int) Pair { return Pair{t.word(at + keyOf), t.word(at + valOf)} }

// visit is where a link leads: one more node that is gone through.
func (t *tree) visit(link uint64) int {
	if t.met == MaxNodes {
		check(api.ErrForm)
	}
	t.met++
	return place(link)
}

// find is where a key's node is.
func (t *tree) find(key uint64) (int, bool) {
	link := t.word(t.slot(key))
	return place(link), link != 0
}

// slot is where the link to a key's node is, or would be, if it were below all.
func (t *tree) slot(key uint64) int {
	return t.down(key, func(at int) bool { return t.word(at+keyOf) != key })
}

// down goes from the top towards a key, as long as that holds of the node that comes, and is where the link to that node is.
func (t *tree) down(key uint64, goes func(at int) bool) int {
	t.met = 0
	slot := t.At + top
	for link := t.word(slot); link != 0; link = t.word(slot) {
		at := t.visit(link)
		if !goes(at) {
			return slot
		}
		slot = at + right
		if key < t.word(at+keyOf) {
			slot = at + left
		}
	}
	return slot
}

// node is where a new node is: the first spare one, or one that is made.
func (t *tree) node() int {
	if link := t.word(t.At + spare); link != 0 {
		at := place(link)
		t.set(t.At+spare, t.word(at+left))
		return at
	}
	at, e := t.M.Alloc(t.R, Node, 8)
	check(e)
	return at
}

// insert puts a key's node where those above it have greater ranks, and parts what was there.
func (t *tree) insert(node int, key uint64) {
	slot := t.down(key, func(at int) bool { return Rank(t.word(at+keyOf)) > Rank(key) })
	link := t.word(slot)
	t.set(slot, uint64(node)+1)
	lesser, greater := node+left, node+right
	t.met = 0
	for link != 0 {
		at := t.visit(link)
		if t.word(at+keyOf) < key {
			t.set(lesser, link)
			lesser = at + right
			link = t.word(lesser)
		} else {
			t.set(greater, link)
			greater = at + left
			link = t.word(greater)
		}
	}
	t.set(lesser, 0)
	t.set(greater, 0)
}

// remove takes a node away, and joins what is on its left and on its right where it was.
func (t *tree) remove(slot, node int) {
	l, r := t.word(node+left), t.word(node+right)
	t.met = 0
	for l != 0 && r != 0 {
		a, b := t.visit(l), place(r)
		if Rank(t.word(a+keyOf)) > Rank(t.word(b+keyOf)) {
			t.set(slot, l)
			slot = a + right
			l = t.word(slot)
		} else {
			t.set(slot, r)
			slot = b + left
			r = t.word(slot)
		}
	}
	t.set(slot, l|r)
	t.set(node+left, t.word(t.At+spare))
	t.set(t.At+spare, uint64(node)+1)
}

func place(link uint64) int { return int(link - 1) }
