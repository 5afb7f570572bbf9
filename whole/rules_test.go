package whole

import (
	"math"
	"math/rand"
	"testing"

	"bailiwick/access"
	"bailiwick/api"
	"bailiwick/asm"
	"bailiwick/call"
	"bailiwick/cell"
	"bailiwick/clock"
	"bailiwick/clone"
	"bailiwick/code"
	"bailiwick/console"
	"bailiwick/dict"
	"bailiwick/diff"
	"bailiwick/dump"
	"bailiwick/explore"
	"bailiwick/extent"
	"bailiwick/flow"
	"bailiwick/forest"
	"bailiwick/handle"
	"bailiwick/journal"
	"bailiwick/linear"
	"bailiwick/list"
	"bailiwick/machine"
	"bailiwick/mark"
	"bailiwick/model"
	"bailiwick/own"
	"bailiwick/pack"
	"bailiwick/plan"
	"bailiwick/pool"
	"bailiwick/report"
	"bailiwick/resume"
	"bailiwick/runs"
	"bailiwick/sample"
	"bailiwick/sched"
	"bailiwick/script"
	"bailiwick/session"
	"bailiwick/shrink"
	"bailiwick/table"
	"bailiwick/task"
	"bailiwick/token"
	"bailiwick/trace"
	"bailiwick/vec"
)

// g makes numbers, and what is made of them, whether they may be or not.
var g = rand.New(rand.NewSource(77))

func oddNumber() int {
	switch g.Intn(8) {
	case 0:
		return math.MaxInt
	case 1:
		return math.MinInt
	case 2:
		return -1 - g.Intn(5)
	case 3:
		return g.Int() >> g.Intn(63)
	case 4:
		return -g.Int() >> g.Intn(63)
	}
	return g.Intn(70)
}

func oddWord() uint32 {
	if g.Intn(3) > 0 {
		return uint32(g.Intn(10))
	}
	return uint32(oddNumber())
}

func oddByte() uint8 {
	if g.Intn(3) > 0 {
		return uint8(g.Intn(10))
	}
	return uint8(oddNumber())
}

func oddHandle() handle.Handle { return handle.Handle(oddWord()) }

func oddRun() runs.Run { return runs.Run{At: oddNumber(), N: oddNumber()} }

func oddText(n int, set string) string {
	var b []byte
	for range g.Intn(n + 1) {
		b = append(b, set[g.Intn(len(set))])
	}
	return string(b)
}

func oddExtent() extent.Extent {
	var e extent.Extent
	for range g.Intn(4) {
		e.Runs = append(e.Runs, oddRun())
	}
	e.Len = oddNumber()
	return e
}

func oddCall() model.Call {
	return model.Call{Do: uint8(g.Intn(25)), R: oddHandle(), S: oddHandle(), A: oddWord(), B: oddWord(), V: uint64(oddNumber())}
}

func oddEvent() machine.Event {
	return machine.Event{Task: oddNumber(), C: oddCall(), Run: oddRun(), R: model.Result{E: api.Errno(oddNumber()), V: uint64(oddNumber()), W: oddHandle()}, From: oddNumber(), To: oddNumber()}
}

// R1: every call ends, and none panics, whatever it is handed.
func TestWhateverIsHanded(t *testing.T) {
	for i := range 60 {
		oddRegions()
		oddEvents(sample.New(i))
		oddBytes()
		oddMachines(sample.New(i))
		oddGoods()
	}
}

// bytes are all bytes.
func bytes() string {
	all := ""
	for i := range 256 {
		all += string([]byte{byte(i)})
	}
	return all
}

func oddRegions() {
	r := runs.Of(oddNumber())
	r, _ = r.Take(oddNumber(), oddNumber())
	r, _ = r.Give(oddNumber(), oddNumber())
	r.Find(oddNumber())
	r.Has(oddNumber())
	r.All()
	r.Mask()
	r.Count()
	p, _ := pool.New(g.Intn(66))
	p.Claim(oddNumber())
	p.Clear(oddNumber())
	p.Back(oddNumber())
	p.Read(oddNumber())
	p.Write(oddNumber(), 3)
	p.Free()
	p.Pages()
	b := handle.Aged([]uint32{oddWord(), oddWord(), math.MaxUint32})
	b, _, _ = b.Issue()
	b, _ = b.Void(oddHandle())
	b.Good(oddHandle())
	b.At(oddNumber())
	b.Issued()
	oddHandle().Slot()
	e := oddExtent()
	e.May()
	e.Pages()
	e.Fits(oddNumber(), oddNumber())
	e.Put(oddNumber(), oddNumber())
	e.Grow(oddRun())
	e.Place(oddNumber())
	extent.Needs(oddNumber(), oddNumber())
	tb := table.Aged([]uint32{oddWord(), oddWord()})
	var os own.Owns
	var k token.Tokens
	for range 12 {
		tb, _, _ = tb.New(oddHandle(), oddNumber())
		tb, _ = tb.Set(oddHandle(), table.Region{Up: oddHandle(), Quota: oddNumber(), E: oddExtent()})
		tb, _ = tb.Raise(oddHandle(), oddHandle())
		tb.Get(oddHandle())
		tb, _, _ = forest.New(tb, oddHandle()*handle.Handle(g.Intn(2)), g.Intn(9))
		tb, _ = forest.Cut(tb, oddHandle())
		tb, _ = forest.Graft(tb, oddHandle(), oddHandle())
		if g.Intn(5) == 0 {
			tb, _, _ = forest.Fell(tb, oddHandle())
			tb, _ = tb.Drop(oddHandle())
		}
		forest.Kids(tb, oddHandle())
		forest.Under(tb, oddHandle())
		forest.Depth(tb, oddHandle())
		forest.Root(tb, oddHandle())
		forest.Outlives(tb, oddHandle(), oddHandle())
		tb, _ = cell.Ref(tb, oddHandle(), oddNumber(), oddHandle(), g.Intn(2) == 0)
		cell.Deref(tb, oddHandle(), oddNumber())
		os, _ = os.Give(tb, oddHandle(), oddNumber())
		os, _ = os.Fly(tb, oddHandle())
		os, _ = os.Freeze(tb, oddHandle(), oddNumber())
		os, _ = os.Hold(tb, oddHandle(), oddNumber())
		os, _, _ = os.Drop(tb, oddHandle(), oddNumber())
		os.Roots(tb, oddNumber())
		os.Held(tb, oddNumber())
		k, _, _ = k.Lend(token.Token{Region: oddHandle(), By: oddByte(), To: oddByte(), Mutable: g.Intn(2) == 0, Above: oddHandle()})
		k, _, _ = k.Return(oddHandle())
		k = k.Clear(oddHandle())
		k.On(oddHandle())
		k.Of(oddNumber())
		k.Reads(oddHandle(), oddHandle())
		k.Writes(oddHandle(), oddHandle())
		access.Who{T: tb, O: os, K: k}.May(oddNumber(), oddHandle(), oddByte())
	}
}

func oddEvents(gg *sample.Gen) {
	s := model.Begin()
	var l []machine.Event
	for j := range 30 {
		c := oddCall()
		tk := oddNumber()
		if g.Intn(3) > 0 {
			c = gg.Call(s, g.Intn(3))
			tk = g.Intn(3)
		}
		rr := oddRun()
		if n := s.Needs(tk, c); n > 0 {
			rr = runs.Run{At: (4 * j) % 60, N: n}
		}
		plan.Regions(s, c)
		plan.Check(s, tk, c)
		plan.Waits(s, tk, c)
		s.Place(c)
		next, x, _ := s.Do(tk, c, rr)
		if s.Needs(tk, c) == 0 {
			rr.N = 0
		}
		clock.Of(s, machine.Event{Task: tk, C: c, R: x})
		clock.Of(s, oddEvent())
		l = append(l, machine.Event{Task: tk, C: c, Run: rr, R: x, From: oddNumber(), To: oddNumber()})
		s = next
	}
	if g.Intn(2) == 0 {
		l = append(l, oddEvent())
	}
	trace.Ordered(l)
	trace.Replay(l)
	trace.Ahead(l)
	trace.Of(l, oddNumber())
	clock.Hangs(l)
	clock.Clocks(l)
	for q := range 32 {
		clock.Swap(l, q-1)
	}
	diff.Effects(l)
	linear.Search(l, g.Intn(2000))
	linear.May(l, []int{oddNumber(), oddNumber()})
	linear.Widen(l, oddNumber())
}

func oddBytes() {
	all := bytes()
	var m mark.Marks
	for range 20 {
		m, _ = m.Try(oddNumber(), oddNumber())
		m = m.Free(oddNumber(), oddNumber())
		m = m.Gone(oddNumber())
		m.Holder(oddNumber())
		m.Waiting(oddNumber())
		m.Held(oddNumber())
	}
	var ins []code.Instr
	for range g.Intn(8) {
		ins = append(ins, code.Instr{Op: oddByte(), A: oddByte(), B: oddByte(), C: oddByte(), N: uint16(oddNumber())})
	}
	code.May(ins)
	code.Encode(ins)
	code.Decode(oddText(30, all))
	asm.Print(ins)
	asm.Word(oddByte())
	asm.Parse(oddText(60, "abz019 r:;\n\tjump haltl"))
	flow.Next(ins, oddNumber())
	flow.Reached(ins)
	flow.Loops(ins)
	flow.Longest(ins)
	flow.Trim(ins)
	flow.Rules(ins, oddNumber(), oddNumber())
	tk := task.Task{Code: ins, Next: oddNumber()}
	tk.Wants()
	tk.Step().Step()
	tk.Takes(model.Result{V: 1, E: api.Errno(oddNumber())})
	script.Decode(oddText(60, "\x00\x01\x02\x08\x10"))
	script.Decode(oddText(60, all))
	sc := script.Script{Pages: oddNumber(), Programs: []string{oddText(12, all)}, Picks: []uint8{oddByte()}}
	machine.New(sc)
	machine.Run(sc)
	explore.All(sc, oddNumber(), oddNumber())
	shrink.Shows(sc, shrink.Want{Do: oddByte()})
	shrink.Shrink(sc, shrink.Want{}, oddNumber())
	session.Play(sc, sched.Policy{Kind: oddByte(), Every: oddNumber()}, oddNumber())
	journal.Begin(sc)
	resume.Begin(sc)
	journal.Read(oddText(80, all))
	journal.Add(oddText(80, all), []uint8{oddByte()})
	journal.Sum(oddText(9, all))
	resume.Open(oddText(80, all))
}

func oddMachines(gg *sample.Gen) {
	good := gg.Script(3, 60)
	mm, _, _ := machine.Run(good)
	for range 20 {
		mm.Pick(oddByte())
	}
	pol := sched.Policy{Kind: uint8(g.Intn(3)), Order: []uint8{oddByte(), oddByte()}, Seed: uint64(oddNumber()), Every: g.Intn(100), Last: oddByte(), Since: oddNumber()}
	pol.Next(mm)
	sched.Gap([]uint8{oddByte(), oddByte()}, oddByte())
	session.Kill(good, pol, g.Intn(50), oddNumber(), oddByte())
	dump.Machine(mm)
	dump.Lines(oddText(20, " a\n"))
	dump.Key(oddText(8, " a"))
	diff.Diff(oddText(40, " ab\n"), oddText(40, " ab\n"))
	report.Of(mm)
	w := explore.Walk{Nodes: []explore.Node{{Ends: true, Way: []uint8{oddByte(), oddByte()}}}}
	w.Stuck(good)
	w.Kinds(good)
	x := mm.Core()
	(&x).Step(call.Call{Task: oddNumber(), C: oddCall()})
	(&x).Cut(call.Call{Task: oddNumber()})
	(&x).Reap()
}

func oddGoods() {
	all := bytes()
	c, _ := console.New(8)
	c.Run("new 0 0 9\nalloc 1 0 40 8\n" + oddText(60, "new loadtask 0123\n#free"))
	h := c.Hand()
	for range 10 {
		h.Bytes(oddHandle(), oddNumber(), oddNumber())
		h.Put(oddHandle(), oddNumber(), []byte(oddText(9, all)))
		h.Word(oddHandle(), oddNumber())
		h.Set(oddHandle(), oddNumber(), 3)
		h.Alloc(oddHandle(), oddNumber(), oddNumber())
		h.Put(1, g.Intn(40), []byte(oddText(30, "\x00\x01\x09\x11\x19\x02")))
		li := list.List{M: h, R: 1, At: g.Intn(40)}
		if g.Intn(3) == 0 {
			li.At = oddNumber()
		}
		li.Len()
		li.Front(3)
		li.Back(4)
		li.Pop()
		li.Get(oddNumber())
		li.Set(oddNumber(), 2)
		li.Turn()
		li.All()
		di := dict.Dict{M: h, R: 1, At: li.At}
		di.Len()
		di.Get(3)
		di.Put(uint64(oddNumber()), 4)
		di.Del(uint64(oddNumber()))
		di.All()
		di.From(uint64(oddNumber()))
		di.High()
		di.Put(1, 1)
		di.Del(1)
		ve := vec.Vec{M: h, R: oddHandle()}
		ve.Len()
		ve.Push(3)
		ve.Pop()
		ve.Get(oddNumber())
		ve.Set(oddNumber(), 1)
		ve.All()
		ve.Sort()
		ve.Find(3)
		clone.Copy(h, oddHandle(), oddHandle())
		clone.Alike(h, oddHandle(), oddHandle())
		pack.Pack(h, oddHandle())
		body := "BWPK" + oddText(40, "\x00\x01\x02\x03")
		n := journal.Sum(body)
		bb := body + string([]byte{byte(n), byte(n >> 8), byte(n >> 16), byte(n >> 24)})
		pack.Tell(bb)
		pack.Unpack(h, 0, bb)
	}
}
