// Package chain asks a hand for a region's words, one thing behind the other, till the first error: what list (36) and vec (38) have in common.
package chain

import (
	"bailiwick/api"
	"bailiwick/handle"
	"bailiwick/mem"
)

// Chain is a hand, a region, and the first error: behind that nothing is asked any more.
type Chain struct {
	M *mem.Mem
	R handle.Handle
	E api.Errno
}

// Of is one of a hand; without a hand nothing is asked at all.
func Of(m *mem.Mem, r handle.Handle) Chain {
	c := Chain{M: m, R: r}
	c.Must(m != nil, api.ErrNil)
	return c
}

// Ask asks something, if nothing went wrong yet.
func (c *Chain) Ask(what func() api.Errno) {
	if c.E == api.OK {
		c.E = what()
	}
}

// Must lets it go wrong, if something does not hold.
func (c *Chain) Must(holds bool, e api.Errno) {
	c.Ask(func() api.Errno {
		if holds {
			return api.OK
		}
		return e
	})
}

// Get is the word at an address.
func (c *Chain) Get(at int) uint64 {
	var v uint64
	c.Ask(func() (e api.Errno) {
		v, e = c.M.Word(c.R, at)
		return e
	})
	return v
}

// Set stores a word.
func (c *Chain) Set(at int, v uint64) {
	c.Ask(func() api.Errno { return c.M.Set(c.R, at, v) })
}

// Alloc is the address of an object that is made, of words.
func (c *Chain) Alloc(size int) int {
	at := 0
	c.Ask(func() (e api.Errno) {
		at, e = c.M.Alloc(c.R, size, 8)
		return e
	})
	return at
}

// Told is what is told, and the error, beside which nothing is.
func Told[T any](c *Chain, what T) (T, api.Errno) {
	if c.E != api.OK {
		var none T
		return none, c.E
	}
	return what, api.OK
}
