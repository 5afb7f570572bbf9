package shrink

import (
	"math"
	"reflect"
	"slices"
	"testing"

	"bailiwick/api"
	"bailiwick/code"
	"bailiwick/model"
	"bailiwick/sample"
	"bailiwick/script"
)

func of(picks []uint8, programs ...[]code.Instr) script.Script {
	s := script.Script{Pages: 4, Picks: picks}
	for _, l := range programs {
		b, _ := code.Encode(l)
		s.Programs = append(s.Programs, b)
	}
	return s
}

var (
	spawn = code.Instr{Op: code.CallBase + model.Spawn}
	one   = code.Instr{Op: code.Set, A: 6, N: 1}
	root  = code.Instr{Op: code.CallBase + model.New}
	recv  = code.Instr{Op: code.CallBase + model.Recv}
)

// P34.1
func TestShows(t *testing.T) {
	s := of([]uint8{0, 0, 0}, []code.Instr{root, recv})
	for _, x := range []struct {
		s script.Script
		w Want
		b bool
		e api.Errno
	}{
		{s, Want{Do: model.New}, true, api.OK}, {s, Want{Do: model.New, E: api.ErrArg}, false, api.OK}, {s, Want{Do: model.Recv}, false, api.OK}, {s, Want{Stuck: true, Do: model.New, E: 99}, true, api.OK},
		{of([]uint8{0, 0}, []code.Instr{root, recv}), Want{Stuck: true, Do: model.New}, false, api.OK}, {s, Want{}, false, api.OK}, {script.Script{}, Want{Do: model.New}, false, api.ErrForm},
	} {
		if b, e := Shows(x.s, x.w); b != x.b || e != x.e {
			t.Error(x, b, e)
		}
	}
}

// P34.2, and the document's example.
func TestExample(t *testing.T) {
	s := of([]uint8{0, 0, 0, 1, 0, 1, 1, 0, 0}, []code.Instr{one, spawn, recv}, []code.Instr{one, root})
	l, n, e := Shrink(s, Want{Do: model.New}, MaxTries)
	if e != api.OK || !slices.Equal(l.Picks, []uint8{0, 0, 0, 1, 1, 1}) || !slices.Equal(l.Programs, s.Programs) || n == 0 || len(s.Picks) != 9 {
		t.Error(l, n, e)
	}
	s = of([]uint8{0, 0, 0}, []code.Instr{{}}, []code.Instr{one, root}, nil)
	l, n, e = Shrink(s, Want{Do: model.Exit}, MaxTries)
	if e != api.OK || !slices.Equal(l.Picks, []uint8{0, 0}) || !slices.Equal(l.Programs, []string{"", "", ""}) {
		t.Error(l, n, e)
	}
	// Pieces of 2 and 1: of 3 picks the first two, the third, then one by one; both programs; and once more.
	for tries, want := range []struct {
		picks   int
		emptied int
	}{{3, 0}, {3, 0}, {2, 0}, {2, 0}, {2, 0}, {2, 1}, {2, 2}, {2, 2}, {2, 2}, {2, 2}, {2, 2}} {
		l, made, _ := Shrink(s, Want{Do: model.Exit}, tries)
		emptied := 0
		for i, b := range l.Programs[:2] {
			if b != s.Programs[i] {
				emptied++
			}
		}
		if len(l.Picks) != want.picks || emptied != want.emptied || made != min(tries, n) {
			t.Error(tries, made, len(l.Picks), emptied)
		}
	}
}

// P34.2: what is refused, in order.
func TestWrong(t *testing.T) {
	s := of([]uint8{0, 0}, nil)
	for _, x := range []struct {
		s     script.Script
		w     Want
		tries int
		e     api.Errno
	}{{script.Script{}, Want{}, -1, api.ErrForm}, {s, Want{}, -1, api.ErrArg}, {s, Want{}, 20001, api.ErrArg}, {s, Want{}, math.MinInt, api.ErrArg}, {s, Want{}, 5, api.ErrState}, {s, Want{Stuck: true}, 5, api.ErrState}, {s, Want{Do: model.Exit}, 0, api.OK}} {
		l, n, e := Shrink(x.s, x.w, x.tries)
		if e != x.e || n != 0 || e != api.OK && !reflect.DeepEqual(l, script.Script{}) || e == api.OK && !reflect.DeepEqual(l, x.s) {
			t.Error(x, l, n, e)
		}
	}
}

// P34.3, P34.4
func TestLeast(t *testing.T) {
	wants := []Want{{Do: model.Lend}, {Do: model.Alloc, E: api.ErrMem}, {Do: model.Graft}, {Stuck: true}, {Do: model.TryRecv}}
	for seed := range 10 {
		s, w := sample.New(seed).Script(3, 120), wants[seed%5]
		if is, _ := Shows(s, w); !is {
			continue
		}
		l, n, _ := Shrink(s, w, MaxTries)
		if is, _ := Shows(l, w); !is {
			t.Fatal("it does not show it")
		}
		at := 0
		for _, b := range l.Picks {
			k := slices.Index(s.Picks[at:], b)
			if k < 0 {
				t.Fatal("in order")
			}
			at += k + 1
		}
		for i := range l.Picks {
			less := l
			less.Picks = slices.Delete(slices.Clone(l.Picks), i, i+1)
			if is, _ := Shows(less, w); is {
				t.Fatal("one more can be left out")
			}
		}
		for i := range l.Programs {
			less := l
			less.Programs = slices.Clone(l.Programs)
			less.Programs[i] = ""
			if is, _ := Shows(less, w); is && l.Programs[i] != "" {
				t.Fatal("one more can be emptied")
			}
		}
		if again, _, _ := Shrink(l, w, MaxTries); !reflect.DeepEqual(again, l) {
			t.Fatal("again")
		}
		most := len(s.Picks)
		for tries := 0; tries < n+9; tries += 1 + n/20 {
			m, made, _ := Shrink(s, w, tries)
			if len(m.Picks) > most || made != min(tries, n) {
				t.Fatal("more tries")
			}
			most = len(m.Picks)
		}
	}
}

// slow shrinks as the chapter tells it, word by word.
type slow struct {
	s     script.Script
	w     Want
	tries int
	made  int
}

// less makes a script the one that is left, if it shows what is wanted; its second answer tells that no try was left.
func (x *slow) less(s script.Script) (bool, bool) {
	if x.made == x.tries {
		return false, true
	}
	x.made++
	is, _ := Shows(s, x.w)
	if is {
		x.s = s
	}
	return is, false
}

func (x *slow) all() {
	for {
		some := false
		n := len(x.s.Picks)/2 + len(x.s.Picks)%2
		if n < 1 {
			n = 1
		}
		for {
			for at := 0; at < len(x.s.Picks); {
				end := at + n
				if end > len(x.s.Picks) {
					end = len(x.s.Picks)
				}
				gone, enough := x.less(script.Script{Pages: x.s.Pages, Programs: x.s.Programs, Picks: append(slices.Clone(x.s.Picks[:at]), x.s.Picks[end:]...)})
				if enough {
					return
				}
				if gone {
					some = true
				} else {
					at += n
				}
			}
			if n == 1 {
				break
			}
			n /= 2
		}
		for i := range x.s.Programs {
			if x.s.Programs[i] == "" {
				continue
			}
			l := slices.Clone(x.s.Programs)
			l[i] = ""
			gone, enough := x.less(script.Script{Pages: x.s.Pages, Programs: l, Picks: x.s.Picks})
			if enough {
				return
			}
			some = some || gone
		}
		if !some {
			return
		}
	}
}

// P34.2: try by try.
func TestTries(t *testing.T) {
	shown := 0
	for seed := range 40 {
		s := sample.New(seed).Script(2+seed%3, 20+seed)
		for _, w := range []Want{{Do: model.New}, {Do: model.Spawn}, {Do: model.Alloc}, {Do: model.Store}, {Do: model.Recv}, {Stuck: true}} {
			if is, _ := Shows(s, w); !is {
				continue
			}
			shown++
			for _, tries := range []int{0, 1, 7, 30, 31, 32, 33, 60, MaxTries} {
				x := &slow{s: s, w: w, tries: tries}
				x.all()
				l, n, e := Shrink(s, w, tries)
				if e != api.OK || n != x.made || !slices.Equal(l.Picks, x.s.Picks) || !slices.Equal(l.Programs, x.s.Programs) {
					t.Fatal(seed, w, tries, n, x.made, l.Picks, x.s.Picks)
				}
			}
		}
	}
	if shown < 40 {
		t.Error("too few", shown)
	}
}
