package model

import (
	"bailiwick/access"
	"bailiwick/api"
	"bailiwick/cell"
	"bailiwick/extent"
	"bailiwick/forest"
	"bailiwick/handle"
	"bailiwick/mail"
	"bailiwick/own"
	"bailiwick/runs"
	"bailiwick/table"
	"bailiwick/token"
)

// job is a call while it is done: its state is thrown away, if an error is thrown.
type job struct {
	State
	task int
	c    Call
	run  runs.Run
	r    Result
	back []runs.Run
}

// does is what each Do does.
func does() map[uint8]func(*job) {
	return map[uint8]func(*job){
		New: (*job).create, Alloc: (*job).alloc, Load: (*job).load, Store: (*job).store,
		Reset: (*job).reset, Delete: (*job).remove, Cut: (*job).cut, Graft: (*job).graft,
		Freeze: (*job).freeze, Share: (*job).share, Drop: (*job).drop, Lend: (*job).lend,
		Return: (*job).giveBack, Send: (*job).send, Recv: (*job).receive, TryRecv: (*job).receive,
		Close: (*job).shut, Ref: (*job).ref, Deref: (*job).deref, Exit: (*job).exit,
		Kill: (*job).kill, Spawn: (*job).spawn,
	}
}

func (j *job) do() {
	must(j.lives(j.task), api.ErrState)
	way, ok := does()[j.c.Do]
	must(ok, api.ErrArg)
	way(j)
}

func (j *job) create() {
	if j.c.R != 0 {
		j.may(j.c.R, access.Store)
	}
	t, h, e := forest.New(j.T, j.c.R, int(j.c.A))
	throw(e)
	j.T, j.r.W = t, h
	if j.c.R == 0 {
		j.give(h, j.task)
	}
}

func (j *job) alloc() {
	n := j.needs()
	r := j.region(j.c.R)
	if n > 0 {
		must(j.run.N == n, api.ErrArg)
		r.E = r.E.Grow(j.run)
		must(r.E.May(), api.ErrArg)
	}
	e, at, _ := r.E.Put(int(j.c.A), int(j.c.B))
	r.E = e
	j.set(j.c.R, r)
	j.r.V = uint64(at)
}

// needs is how many pages an Alloc does; it throws whatever the call would answer, but what its run decides.
func (j *job) needs() int {
	must(j.lives(j.task), api.ErrState)
	n, ok := extent.Needs(int(j.c.A), int(j.c.B))
	must(ok, api.ErrArg)
	j.may(j.c.R, access.Store)
	r := j.region(j.c.R)
	if _, fits := r.E.Fits(int(j.c.A), int(j.c.B)); fits {
		return 0
	}
	must(r.E.Pages()+n <= r.Quota, api.ErrMem)
	return n
}

func (j *job) load() { j.reach(access.Load) }

func (j *job) store() { j.reach(access.Store) }

// reach asks whether bytes may be loaded, or stored.
func (j *job) reach(what uint8) {
	must(mayWidth(j.c.B), api.ErrArg)
	j.may(j.c.R, what)
	must(used(j.region(j.c.R).E, j.c.A, j.c.B), api.ErrRange)
}

func (j *job) reset() {
	j.may(j.c.R, access.Store)
	r := j.region(j.c.R)
	j.back = append(j.back, r.E.Runs...)
	j.set(j.c.R, table.Region{Quota: r.Quota})
}

func (j *job) remove() {
	j.may(j.c.R, access.Whole)
	j.fell(j.c.R)
}

func (j *job) cut() {
	j.may(j.c.R, access.Whole)
	must(forest.Root(j.T, j.c.R) != j.c.R, api.ErrState)
	j.root(j.c.R)
	j.give(j.c.R, j.task)
}

func (j *job) graft() {
	j.may(j.c.R, access.Whole)
	j.may(j.c.S, access.Store)
	t, e := forest.Graft(j.T, j.c.R, j.c.S)
	throw(e)
	j.T = t
}

func (j *job) freeze() {
	j.may(j.c.R, access.Whole)
	j.root(j.c.R)
	o, e := j.O.Freeze(j.T, j.c.R, j.task)
	throw(e)
	j.O = o
}

func (j *job) share() {
	must(j.livesA(), api.ErrArg)
	j.held(j.c.R)
	j.hold(int(j.c.A))
}

func (j *job) drop() { j.dropped(j.c.R, j.task) }

func (j *job) lend() {
	must(j.livesA() && j.c.B <= 1, api.ErrArg)
	must(j.T.Good(j.c.R), api.ErrStale)
	if j.c.S == 0 {
		must(j.O.Of(j.T, j.c.R) == own.Own{Kind: own.Owned, Task: uint8(j.task)}, api.ErrAccess)
	} else {
		above := j.token(j.c.S)
		must(int(above.To) == j.task && above.Region == j.c.R, api.ErrAccess)
	}
	x := token.Token{Region: j.c.R, By: uint8(j.task), To: uint8(j.c.A), Mutable: j.c.B == 1, Above: j.c.S}
	k, h, e := j.K.Lend(x)
	throw(e)
	j.K, j.r.W = k, h
}

func (j *job) giveBack() {
	must(int(j.token(j.c.S).To) == j.task, api.ErrAccess)
	j.K, _, _ = j.K.Return(j.c.S)
}

func (j *job) send() {
	must(j.livesA() && j.c.B <= 1, api.ErrArg)
	share := j.c.R != 0 && j.c.B == 1 // of a word alone nothing is a share
	if share {
		j.held(j.c.R)
	} else if j.c.R != 0 {
		j.may(j.c.R, access.Whole)
	}
	box, e := j.Boxes[j.c.A].Put(mail.Message{From: uint8(j.task), Word: j.c.V, Region: j.c.R, Share: share})
	throw(e)
	j.Boxes[j.c.A] = box
	if j.c.R == 0 {
		return
	}
	if !share {
		j.root(j.c.R)
		j.O, _ = j.O.Fly(j.T, j.c.R)
	} else if j.O.Of(j.T, j.c.R).Holders>>j.c.A&1 == 0 {
		j.hold(int(j.c.A))
	}
}

func (j *job) receive() {
	box, m, e := j.Boxes[j.task].Take()
	throw(e)
	j.Boxes[j.task] = box
	j.r.V, j.r.W = m.Word, m.Region
	if m.Region != 0 && !m.Share {
		j.give(m.Region, j.task)
	}
}

func (j *job) shut() {
	box, e := j.Boxes[j.task].Close()
	throw(e)
	j.Boxes[j.task] = box
}

func (j *job) ref() {
	j.may(j.c.R, access.Store)
	if j.c.S != 0 {
		j.may(j.c.S, access.Load)
	}
	firm := j.O.Of(j.T, j.c.S).Kind == own.Frozen
	t, e := cell.Ref(j.T, j.c.R, int(j.c.A), j.c.S, firm)
	throw(e)
	j.T = t
}

func (j *job) deref() {
	j.may(j.c.R, access.Load)
	h, e := cell.Deref(j.T, j.c.R, int(j.c.A))
	throw(e)
	j.r.W = h
}

func (j *job) exit() { j.die(j.task) }

func (j *job) kill() {
	must(j.livesA(), api.ErrArg)
	j.die(int(j.c.A))
}

func (j *job) spawn() {
	must(j.c.A < api.MaxTasks && !j.Born[j.c.A%api.MaxTasks], api.ErrArg)
	j.Alive[j.c.A], j.Born[j.c.A] = true, true
}

// die lets a task die, in the order in which the chapter tells it.
func (j *job) die(task int) {
	box, messages := j.Boxes[task].Drain()
	j.Boxes[task] = box
	for _, m := range messages {
		if m.Region != 0 && !m.Share {
			j.bounce(m, task)
		}
	}
	for _, k := range j.K.Of(task) {
		j.K, _, _ = j.K.Return(k)
	}
	for _, root := range j.O.Roots(j.T, task) {
		for _, h := range forest.Under(j.T, root) {
			j.K = j.K.Clear(h)
		}
		j.fell(root)
	}
	for _, root := range j.O.Held(j.T, task) {
		j.dropped(root, task)
	}
	j.Alive[task] = false
}

// bounce lets a tree that was moved to a task that dies be its sender's again, or be gone.
func (j *job) bounce(m mail.Message, task int) {
	if from := int(m.From); from != task && j.lives(from) {
		j.give(m.Region, from)
	} else {
		j.fell(m.Region)
	}
}

// dropped lets a task hold a tree no more; a tree that nobody holds is gone.
func (j *job) dropped(root handle.Handle, task int) {
	o, left, e := j.O.Drop(j.T, root, task)
	throw(e)
	j.O = o
	if left == 0 {
		j.fell(root)
	}
}

// fell lets all that is under a region be gone, and gives back its runs.
func (j *job) fell(h handle.Handle) {
	for _, x := range forest.Under(j.T, h) {
		j.back = append(j.back, j.region(x).E.Runs...)
	}
	j.T, _, _ = forest.Fell(j.T, h)
}

func (j *job) root(h handle.Handle) {
	t, e := forest.Cut(j.T, h)
	throw(e)
	j.T = t
}

func (j *job) give(root handle.Handle, task int) {
	o, e := j.O.Give(j.T, root, task)
	throw(e)
	j.O = o
}

// hold lets a task hold the tree that the call names, too.
func (j *job) hold(task int) {
	o, e := j.O.Hold(j.T, j.c.R, task)
	throw(e)
	j.O = o
}

// held asks whether the task holds a tree.
func (j *job) held(root handle.Handle) {
	must(j.T.Good(root), api.ErrStale)
	x := j.O.Of(j.T, root)
	must(forest.Root(j.T, root) == root && x.Kind == own.Frozen, api.ErrState)
	must(x.Holders>>j.task&1 == 1, api.ErrAccess)
}

func (j *job) may(h handle.Handle, what uint8) { throw(j.May(j.task, h, what)) }

func (j *job) token(h handle.Handle) token.Token {
	x, e := j.K.Get(h)
	throw(e)
	return x
}

func (j *job) region(h handle.Handle) table.Region {
	r, e := j.T.Get(h)
	throw(e)
	return r
}

func (j *job) set(h handle.Handle, r table.Region) {
	t, e := j.T.Set(h, r)
	throw(e)
	j.T = t
}

func (j *job) lives(task int) bool { return task >= 0 && task < api.MaxTasks && j.Alive[task] }

// livesA tells whether the task A that the call names lives.
func (j *job) livesA() bool { return j.c.A < api.MaxTasks && j.Alive[j.c.A] }
