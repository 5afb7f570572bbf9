// Package runs is layer 1: which pages are free, as runs.
package runs

import (
	"iter"
	"math/bits"

	"bailiwick/api"
)

// Run is pages in a row.
type Run struct{ At, N int }

// Runs is a set of pages. It is kept as bits, so that the same pages are always told by the same value.
type Runs struct{ mask uint64 }

// Of is the set of so many first pages.
func Of(pages int) Runs {
	pages = min(max(pages, 0), api.MaxPages)
	if pages == 0 {
		return Runs{}
	}
	return Runs{^uint64(0) >> (api.MaxPages - pages)}
}

// Find is the least page at which a run lies in the set.
func (r Runs) Find(n int) (int, bool) {
	if n < 1 {
		return 0, false
	}
	run := r.first(func(x Run) bool { return x.N >= n })
	return run.At, run != Run{}
}

// Take is the set without a run.
func (r Runs) Take(at, n int) (Runs, bool) {
	if !may(at, n) {
		return r, false
	}
	around := r.first(func(x Run) bool { return x.At <= at && at+n <= x.At+x.N })
	if around == (Run{}) {
		return r, false
	}
	return Runs{r.mask &^ span(at, n)}, true
}

// Give is the set with a run.
func (r Runs) Give(at, n int) (Runs, bool) {
	if !may(at, n) {
		return r, false
	}
	met := r.first(func(x Run) bool { return x.At < at+n && at < x.At+x.N })
	if met != (Run{}) {
		return r, false
	}
	return Runs{r.mask | span(at, n)}, true
}

// Has tells whether a page is in it.
func (r Runs) Has(page int) bool {
	return page >= 0 && page < api.MaxPages && r.mask>>page&1 == 1
}

// Count is how many pages are.
func (r Runs) Count() int { return bits.OnesCount64(r.mask) }

// All are its runs.
func (r Runs) All() []Run {
	var l []Run
	for x := range r.each() {
		l = append(l, x)
	}
	return l
}

// Mask is its pages as bits.
func (r Runs) Mask() uint64 { return r.mask }

// each goes through the runs, rising.
func (r Runs) each() iter.Seq[Run] {
	return func(yield func(Run) bool) {
		left := r.mask
		for left != 0 {
			at := bits.TrailingZeros64(left)
			n := bits.TrailingZeros64(^(left >> at))
			if !yield(Run{at, n}) {
				return
			}
			left &^= span(at, n)
		}
	}
}

// first is the first run of which that holds; a zero one, which no set has, tells that there is none.
func (r Runs) first(holds func(Run) bool) Run {
	for x := range r.each() {
		if holds(x) {
			return x
		}
	}
	return Run{}
}

// may tells whether a run is one of pages that there are; n is held against what is left, since a sum might wrap round.
func may(at, n int) bool {
	return n >= 1 && at >= 0 && at < api.MaxPages && n <= api.MaxPages-at
}

func span(at, n int) uint64 {
	return ^uint64(0) >> (api.MaxPages - n) << at
}
