// Package shape tells regions that go together so that they can be made elsewhere: what clone (39) and pack (40) have in common.
package shape

import (
	"bailiwick/access"
	"bailiwick/api"
	"bailiwick/extent"
	"bailiwick/forest"
	"bailiwick/handle"
	"bailiwick/mem"
	"bailiwick/model"
)

// Cell is what a cell names: one of the regions that are told, by its place from 1 on; or one elsewhere; or, zero, nothing.
type Cell struct {
	Place int
	Else  handle.Handle
}

// Part is one of the regions: the place of the one above it, from 0 on (of the first one 0), its quota, how many pages its chunks have, its used bytes, and its cells.
type Part struct {
	Up     int
	Quota  int
	Chunks []int
	Bytes  []byte
	Cells  [api.MaxCells]Cell
}

// thrown is what goes wrong.
type thrown struct{ e api.Errno }

func check(e api.Errno) {
	if e != api.OK {
		panic(thrown{e})
	}
}

// caught is the error that something threw.
func caught(do func()) (e api.Errno) {
	defer func() {
		if x := recover(); x != nil {
			t, ok := x.(thrown)
			if !ok {
				panic(x)
			}
			e = t.e
		}
	}()
	do()
	return api.OK
}

// Lives tells whether there is a hand, and its task lives.
func Lives(m *mem.Mem) api.Errno {
	if m == nil {
		return api.ErrNil
	}
	if !m.Core().S.Alive[m.Task()] {
		return api.ErrState
	}
	return api.OK
}

// Reads tells whether a hand's task may load all that is under a region.
func Reads(m *mem.Mem, r handle.Handle) api.Errno {
	s := m.Core().S
	if !s.T.Good(r) {
		return api.ErrStale
	}
	for _, h := range forest.Under(s.T, r) {
		if e := s.May(m.Task(), h, access.Load); e != api.OK {
			return e
		}
	}
	return api.OK
}

// Below tells whether regions may be made below one, or, of 0, as a root.
func Below(m *mem.Mem, up handle.Handle) api.Errno {
	if up == 0 {
		return api.OK
	}
	return m.Core().S.May(m.Task(), up, access.Whole)
}

// Read is all that is under a region.
func Read(m *mem.Mem, r handle.Handle) ([]Part, api.Errno) {
	s := m.Core().S
	under := forest.Under(s.T, r)
	places := map[handle.Handle]int{}
	for i, h := range under {
		places[h] = i + 1
	}
	var parts []Part
	e := caught(func() {
		for _, h := range under {
			x, _ := s.T.Get(h)
			p := Part{Up: max(places[x.Up]-1, 0), Quota: x.Quota}
			for _, c := range x.E.Runs {
				p.Chunks = append(p.Chunks, c.N)
			}
			for i, to := range x.Cells {
				if p.Cells[i].Place = places[to]; p.Cells[i].Place == 0 {
					p.Cells[i].Else = to
				}
			}
			b, e := m.Bytes(h, 0, x.E.Len)
			check(e)
			p.Bytes = b
			parts = append(parts, p)
		}
	})
	return parts, e
}

// Build makes regions below one, or as a root; it answers the first one. If something goes wrong, what was made is deleted.
func Build(m *mem.Mem, up handle.Handle, parts []Part) (handle.Handle, api.Errno) {
	b := &builder{m: m}
	e := b.all(up, parts)
	if e != api.OK {
		return 0, e
	}
	return b.made[0], api.OK
}

// builder makes regions, by a hand.
type builder struct {
	m    *mem.Mem
	made []handle.Handle
}

func (b *builder) all(up handle.Handle, parts []Part) (e api.Errno) {
	defer func() {
		if e != api.OK && len(b.made) > 0 {
			b.m.Call(model.Call{Do: model.Delete, R: b.made[0]})
		}
	}()
	return caught(func() {
		for _, p := range parts {
			b.region(up, p)
		}
		for i, p := range parts {
			b.cells(b.made[i], p)
		}
	})
}

// region makes a region, with its bytes.
func (b *builder) region(up handle.Handle, p Part) {
	if len(b.made) > 0 {
		up = b.made[p.Up]
	}
	x := b.m.Call(model.Call{Do: model.New, R: up, A: uint32(p.Quota)})
	check(x.E)
	b.made = append(b.made, x.W)
	left := len(p.Bytes)
	for _, pages := range p.Chunks {
		size := min(pages*api.Page, left, extent.MaxObject)
		_, e := b.m.Alloc(x.W, size, 1)
		check(e)
		left -= size
	}
	check(b.m.Put(x.W, 0, p.Bytes))
}

// cells fills a region's cells; one of a region elsewhere stays empty, if it may not be.
func (b *builder) cells(h handle.Handle, p Part) {
	for i, c := range p.Cells {
		ref := func(to handle.Handle) api.Errno {
			return b.m.Call(model.Call{Do: model.Ref, R: h, S: to, A: uint32(i)}).E
		}
		switch {
		case c.Place > 0:
			check(ref(b.made[c.Place-1]))
		case c.Else != 0:
			ref(c.Else)
		}
	}
}
