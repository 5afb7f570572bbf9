// Package replay does one event once more: what trace (20) and the layers above it that go from state to state have in common.
package replay

import (
	"bailiwick/api"
	"bailiwick/machine"
	"bailiwick/model"
)

// Step is the state behind an event, and whether the event agrees there; of one that does not, the state is as it was.
func Step(s model.State, e machine.Event) (model.State, bool) {
	needs := s.Needs(e.Task, e.C)
	if e.R.E == api.ErrMem && needs > 0 {
		return s, true // the arena had no pages: the model does not know of that
	}
	next, r, _ := s.Do(e.Task, e.C, e.Run)
	asked := e.R
	if e.C.Do == model.Load {
		asked.V = r.V
	}
	if r != asked || e.Run.N != needs {
		return s, false
	}
	return next, true
}
