package full

import (
	"math"
	"slices"
	"testing"

	"leapfrog/api"
	"leapfrog/words"
)

// threads and nobody are numbers that are threads, and that are none.
var (
	threads = []int{0, 1, 2, 31, 62, 63}
	nobody  = []int{-1, 64, 65, -64, 1 << 32, 1<<32 + 1, math.MaxInt, math.MinInt}
)

// values and strange are numbers that are domain values, and that are none.
var (
	values  = []int{0, 1, 5, 62, 63}
	strange = []int{-1, 64, 65, -64, 1 << 32, 1<<32 + 1, math.MaxInt, math.MinInt}
)

// sets are sets of domain values: of one value each, of several, and of all.
var sets = []uint64{1, 2, 3, 1 << 5, 1<<5 - 1, 1 << 32, 1<<63 - 1, 1 << 63, 1<<63 + 1, math.MaxUint64 - 1, math.MaxUint64}

// nowhere returns numbers that are none from 0 to n - 1.
func nowhere(n int) []int {
	return []int{n, -1, n + 1, 2 * n, -n, n + 1<<32, 1<<16 + n, math.MaxInt, math.MaxInt - n + 1, math.MinInt}
}

// operation is what Enter and Wait have in common.
type operation interface {
	Step() (pc uint8, done bool)
	Next() uint8
}

// memory returns a memory with these words.
func memory(t *testing.T, l ...uint64) *words.Mem {
	t.Helper()
	m, e := words.New(l...)
	if m == nil || e != api.OK {
		t.Fatal("words.New:", len(l), m, e)
	}
	return m
}

// built returns an engine.
func built(t *testing.T, m *words.Mem, base, n int) *Engine {
	t.Helper()
	before := m.Len()
	g, e := New(m, base, n)
	if g == nil || e != api.OK {
		t.Fatal("New:", base, n, g, e)
	}
	if m.Len() != before {
		t.Error("New makes an access:", base, n)
	}
	return g
}

// alone returns an engine of n slots, and its memory, which has no other words.
func alone(t *testing.T, n int) (*Engine, *words.Mem) {
	t.Helper()
	m := memory(t, make([]uint64, n)...)
	return built(t, m, 0, n), m
}

// entering returns an operation that begins to enter a section.
func entering(t *testing.T, g *Engine, thread, slot, value int) *Enter {
	t.Helper()
	x, e := g.Enter(thread, slot, value)
	if x == nil || e != api.OK {
		t.Fatal("Enter:", thread, slot, value, x, e)
	}
	return x
}

// enter enters a section.
func enter(t *testing.T, g *Engine, thread, slot, value int) {
	t.Helper()
	stepped(t, entering(t, g, thread, slot, value), api.PcSeq, true, "of Enter", thread, slot, value)
}

// leave leaves a section.
func leave(t *testing.T, g *Engine, thread, slot int) {
	t.Helper()
	if pc, e := g.Exit(thread, slot); pc != api.PcSeq || e != api.OK {
		t.Fatal("Exit:", thread, slot, pc, e)
	}
}

// waiting returns an operation that begins to wait.
func waiting(t *testing.T, g *Engine, thread int, set uint64) *Wait {
	t.Helper()
	w, e := g.Wait(thread, set)
	if w == nil || e != api.OK {
		t.Fatal("Wait:", thread, set, w, e)
	}
	return w
}

// stepped makes a step, and looks at what it returns.
func stepped(t *testing.T, o operation, pc uint8, done bool, what ...any) {
	t.Helper()
	if n := o.Next(); n != pc {
		t.Error("Next:", n, "and not", pc, what)
	}
	if p, d := o.Step(); p != pc || d != done {
		t.Error("Step:", p, d, "and not", pc, done, what)
	}
}

// idle looks whether an operation does nothing any more.
func idle(t *testing.T, o operation, what ...any) {
	t.Helper()
	for range 3 {
		stepped(t, o, api.PcIdle, false, what...)
	}
}

// opens looks at the slots whose sections are entered.
func opens(t *testing.T, g *Engine, want []int, what ...any) {
	t.Helper()
	if l := g.Open(); !slices.Equal(l, want) {
		t.Error("Open:", l, "and not", want, what)
	}
}

// logs looks at the accesses of a memory from an index on.
func logs(t *testing.T, m *words.Mem, from int, want []api.Access, what ...any) {
	t.Helper()
	if l := m.Log(from); !slices.Equal(l, want) {
		t.Error("log:", l, "and not", want, what)
	}
}

// shows looks at the words of a memory.
func shows(t *testing.T, m *words.Mem, want []uint64, what ...any) {
	t.Helper()
	if l := m.Words(); !slices.Equal(l, want) {
		t.Error("words:", l, "and not", want, what)
	}
}

// stored is the access that stores the number after old.
func stored(thread, addr int, old uint64) api.Access {
	return api.Access{Thread: thread, Addr: addr, Kind: api.Store, Old: old, New: old + 1}
}

// loaded is the access that loads a number.
func loaded(thread, addr int, word uint64) api.Access {
	return api.Access{Thread: thread, Addr: addr, Kind: api.Load, Old: word, New: word}
}

// TestExamples: the chapter's examples.
func TestExamples(t *testing.T) {
	g, m := alone(t, 2)
	x := entering(t, g, 0, 0, 5)
	stepped(t, x, api.PcSeq, true)
	opens(t, g, []int{0})
	w := waiting(t, g, 1, 1)
	stepped(t, w, api.PcLook, false)
	stepped(t, w, api.PcLook, false)
	shows(t, m, []uint64{1, 0})
	leave(t, g, 0, 0)
	shows(t, m, []uint64{2, 0})
	stepped(t, w, api.PcLook, false)
	stepped(t, w, api.PcLook, true)
	if pc, e := g.Exit(0, 0); pc != 0 || e != api.ErrState {
		t.Error("Exit again:", pc, e)
	}
	if w, e := g.Wait(1, 0); w != nil || e != api.ErrArg {
		t.Error("Wait for nothing:", w, e)
	}
	logs(t, m, 0, []api.Access{stored(0, 0, 0), loaded(1, 0, 1), loaded(1, 0, 1), stored(0, 0, 1), loaded(1, 0, 2), loaded(1, 1, 0)})
}

// fits reports whether an engine may have n slots.
func fits(n int) bool {
	return 1 <= n && n <= api.MaxSlots
}

// TestWords: P16.1, all numbers about those that are allowed, and both ends of the ints.
func TestWords(t *testing.T) {
	numbers := []int{math.MinInt, math.MinInt + 1, -1 << 32, 1 << 16, 1 << 32, 1<<32 + 1, 1<<32 + 64, math.MaxInt - 1, math.MaxInt}
	for n := -70; n <= 200; n++ {
		numbers = append(numbers, n)
	}
	for _, n := range numbers {
		count, e := Words(n)
		if fits(n) && (count != n || e != api.OK) || !fits(n) && (count != 0 || e != api.ErrArg) {
			t.Error("Words:", n, count, e)
		}
	}
}

// newError is the error of New as P16.1 says, for a memory of size words.
func newError(m *words.Mem, size, base, n int) api.Errno {
	switch {
	case m == nil:
		return api.ErrNil
	case !fits(n):
		return api.ErrArg
	case base < 0 || base > size-n:
		return api.ErrRange
	}
	return api.OK
}

// TestNew: P16.1, with memories of several sizes and none, all bases about those that are allowed, and the order of the errors.
func TestNew(t *testing.T) {
	for _, size := range []int{0, 1, 2, 5, 63, 64, 65, 200, api.MaxWords} {
		var m *words.Mem
		if size > 0 {
			m = memory(t, make([]uint64, size)...)
		}
		bases := append(nowhere(size), math.MaxInt-62, math.MaxInt-63, math.MaxInt-64, math.MinInt+63)
		for d := -70; d <= 70; d++ {
			bases = append(bases, d, size+d)
		}
		for _, n := range []int{-64, -1, 0, 1, 2, 3, 5, 62, 63, 64, 65, 128, 1<<32 + 1, math.MaxInt, math.MinInt} {
			for _, base := range bases {
				g, e := New(m, base, n)
				if want := newError(m, size, base, n); e != want || (g != nil) != (want == api.OK) {
					t.Fatal("New:", size, base, n, g, e, "and not", want)
				}
			}
		}
		if m.Len() != 0 {
			t.Error("New makes accesses:", size, m.Len())
		}
	}
}

// TestNewSlots: P16.1, no slot of a new engine has a section: each can be entered, and none left.
func TestNewSlots(t *testing.T) {
	for n := 1; n <= api.MaxSlots; n++ {
		g, m := alone(t, n)
		opens(t, g, nil, n)
		for slot := range n {
			if pc, e := g.Exit(0, slot); pc != 0 || e != api.ErrState {
				t.Error("Exit of a new engine:", n, slot, pc, e)
			}
		}
		for slot := range n {
			entering(t, g, 0, slot, 0)
		}
		shows(t, m, make([]uint64, n), n)
		logs(t, m, 0, nil, n)
	}
}

// enterError is the error of Enter as P16.2 says, for an engine of n slots.
func enterError(has bool, n, thread, slot, value int) api.Errno {
	switch {
	case !(0 <= thread && thread <= api.MaxThreads-1):
		return api.ErrArg
	case !(0 <= slot && slot <= n-1):
		return api.ErrRange
	case !(0 <= value && value <= api.MaxDomain-1):
		return api.ErrArg
	case has:
		return api.ErrState
	}
	return api.OK
}

// exitError is the error of Exit as P16.3 says, for an engine of n slots.
func exitError(entered bool, n, thread, slot int) api.Errno {
	switch {
	case !(0 <= thread && thread <= api.MaxThreads-1):
		return api.ErrArg
	case !(0 <= slot && slot <= n-1):
		return api.ErrRange
	case !entered:
		return api.ErrState
	}
	return api.OK
}

// waitError is the error of Wait as P16.4 says.
func waitError(thread int, set uint64) api.Errno {
	if !(0 <= thread && thread <= api.MaxThreads-1) || set == 0 {
		return api.ErrArg
	}
	return api.OK
}

// TestEnterErrors: P16.2, threads, slots and values, the order of the errors, and that calls with an error change nothing.
func TestEnterErrors(t *testing.T) {
	for _, n := range []int{1, 2, 3, 63, 64} {
		for _, has := range []bool{false, true} {
			for _, slot := range append(nowhere(n), 0, n/2, n-1) {
				g, m := alone(t, n)
				if has {
					for s := range n {
						enter(t, g, 0, s, 0)
					}
				}
				before, open, length := m.Words(), g.Open(), m.Len()
				for _, thread := range slices.Concat(nobody, threads) {
					for _, value := range slices.Concat(strange, values) {
						want := enterError(has, n, thread, slot, value)
						if want == api.OK {
							continue
						}
						if x, e := g.Enter(thread, slot, value); x != nil || e != want {
							t.Fatal("Enter:", n, has, thread, slot, value, x, e, "and not", want)
						}
					}
				}
				opens(t, g, open, n, has, slot)
				shows(t, m, before, n, has, slot)
				logs(t, m, length, nil, n, has, slot)
				if !has && 0 <= slot && slot < n {
					enter(t, g, 0, slot, 0)
				}
			}
		}
	}
}

// TestAllNumbers: P16.2 to P16.4, all threads, slots and values about those that are allowed.
func TestAllNumbers(t *testing.T) {
	const n = 64
	for thread := -3; thread <= 70; thread++ {
		g, _ := alone(t, n)
		for slot := -3; slot <= 70; slot++ {
			for value := -3; value <= 70; value++ {
				has := slices.Contains(g.Open(), slot)
				x, e := g.Enter(thread, slot, value)
				if want := enterError(has, n, thread, slot, value); e != want || (x != nil) != (want == api.OK) {
					t.Fatal("Enter:", thread, slot, value, x, e, "and not", want)
				}
				if e != api.OK {
					continue
				}
				stepped(t, x, api.PcSeq, true, thread, slot, value)
				// Half of the sections stay, so that the next value finds them.
				if value%2 == 0 {
					leave(t, g, thread, slot)
				}
			}
			entered := slices.Contains(g.Open(), slot)
			if pc, e := g.Exit(thread, slot); e != exitError(entered, n, thread, slot) || (pc == api.PcSeq) != (e == api.OK) {
				t.Fatal("Exit:", thread, slot, entered, pc, e)
			}
		}
		for _, set := range append(sets, 0) {
			if w, e := g.Wait(thread, set); e != waitError(thread, set) || (w != nil) != (e == api.OK) {
				t.Fatal("Wait:", thread, set, w, e)
			}
		}
	}
}

// TestExitErrors: P16.3, threads and slots, the order of the errors, and that calls with an error change nothing.
func TestExitErrors(t *testing.T) {
	for _, n := range []int{1, 2, 3, 63, 64} {
		g, m := alone(t, n)
		// Of three slots one has a section that is entered, one has one that is not entered yet, and one has none.
		var entered []int
		for slot := range n {
			switch slot % 3 {
			case 0:
				enter(t, g, 0, slot, 0)
				entered = append(entered, slot)
			case 1:
				entering(t, g, 0, slot, 0)
			}
		}
		before, length := m.Words(), m.Len()
		for _, thread := range slices.Concat(nobody, threads) {
			for _, slot := range append(nowhere(n), 0, 1, 2, n-2, n-1) {
				want := exitError(slices.Contains(entered, slot), n, thread, slot)
				if want == api.OK {
					continue
				}
				if pc, e := g.Exit(thread, slot); pc != 0 || e != want {
					t.Error("Exit:", n, thread, slot, pc, e, "and not", want)
				}
			}
		}
		opens(t, g, entered, n)
		shows(t, m, before, n)
		logs(t, m, length, nil, n)
	}
}

// TestWaitErrors: P16.4, threads and sets, and that beginning to wait makes no access.
func TestWaitErrors(t *testing.T) {
	all := append(slices.Clone(sets), 0)
	for bit := range 64 {
		all = append(all, 1<<bit)
	}
	g, m := alone(t, 3)
	for _, thread := range slices.Concat(nobody, threads) {
		for _, set := range all {
			w, e := g.Wait(thread, set)
			if want := waitError(thread, set); e != want || (w != nil) != (want == api.OK) {
				t.Error("Wait:", thread, set, w, e, "and not", want)
			}
		}
	}
	logs(t, m, 0, nil)
}

// TestNil: the methods of nil objects, and P16.1 for a nil memory; ErrNil comes before all other errors.
func TestNil(t *testing.T) {
	var g *Engine
	var x *Enter
	var w *Wait
	idle(t, x, "Enter")
	idle(t, w, "Wait")
	for _, number := range []int{-1, 0, 64} {
		if got, e := New(nil, number, number); got != nil || e != api.ErrNil {
			t.Error("New:", number, got, e)
		}
		if got, e := g.Enter(number, number, number); got != nil || e != api.ErrNil {
			t.Error("Enter:", number, got, e)
		}
		if pc, e := g.Exit(number, number); pc != 0 || e != api.ErrNil {
			t.Error("Exit:", number, pc, e)
		}
		for _, set := range []uint64{0, 1} {
			if got, e := g.Wait(number, set); got != nil || e != api.ErrNil {
				t.Error("Wait:", number, set, got, e)
			}
		}
	}
	if l := g.Open(); len(l) != 0 {
		t.Error("Open:", l)
	}
}

// TestSections: P16.2 and P16.3, every slot of engines at several places, with the accesses of entering and leaving, and the words around them.
func TestSections(t *testing.T) {
	for _, n := range []int{1, 2, 3, 64} {
		for _, base := range []int{0, 1, 7} {
			for slot := range n {
				around := make([]uint64, base+n+2)
				for addr := range around {
					if addr < base || addr >= base+n {
						around[addr] = 1001 + uint64(addr)
					}
				}
				m := memory(t, around...)
				g := built(t, m, base, n)
				thread, value := slot%64, 63-slot%64
				x := entering(t, g, thread, slot, value)
				shows(t, m, around, n, base, slot)
				stepped(t, x, api.PcSeq, true, n, base, slot)
				idle(t, x, n, base, slot)
				around[base+slot] = 1
				shows(t, m, around, n, base, slot)
				// Another thread than the one that entered may leave.
				leave(t, g, 63-thread, slot)
				idle(t, x, n, base, slot)
				around[base+slot] = 2
				shows(t, m, around, n, base, slot)
				logs(t, m, 0, []api.Access{stored(thread, base+slot, 0), stored(63-thread, base+slot, 1)}, n, base, slot)
			}
		}
	}
}

// TestEveryThread: P16.2 to P16.4, the accesses of an operation are those of its thread.
func TestEveryThread(t *testing.T) {
	for thread := range api.MaxThreads {
		g, m := alone(t, 2)
		enter(t, g, thread, 1, thread)
		w := waiting(t, g, thread, 1<<thread)
		stepped(t, w, api.PcLook, false, thread)
		stepped(t, w, api.PcLook, false, thread)
		stepped(t, w, api.PcLook, false, thread)
		leave(t, g, thread, 1)
		stepped(t, w, api.PcLook, true, thread)
		logs(t, m, 0, []api.Access{stored(thread, 1, 0), loaded(thread, 0, 0), loaded(thread, 1, 1), loaded(thread, 1, 1), stored(thread, 1, 1), loaded(thread, 1, 2)}, thread)
	}
}

// TestNumbers: P16.2 and P16.3, the number of a slot grows by one with each Enter and each Exit, and is never loaded to store the next one.
func TestNumbers(t *testing.T) {
	g, m := alone(t, 3)
	for round := range uint64(1000) {
		slot := int(round % 2 * 2)
		old := round / 2 * 2
		from := m.Len()
		enter(t, g, 1, slot, int(round%64))
		opens(t, g, []int{slot}, round)
		leave(t, g, 2, slot)
		opens(t, g, nil, round)
		logs(t, m, from, []api.Access{stored(1, slot, old), stored(2, slot, old+1)}, round)
	}
	shows(t, m, []uint64{1000, 0, 1000})
}

// TestHas: P16.2, P16.3 and P16.5, what a slot allows before Enter, after it, after its step, and after Exit.
func TestHas(t *testing.T) {
	g, m := alone(t, 2)
	refuses := func(enters, exits api.Errno, open ...int) {
		t.Helper()
		length := m.Len()
		if enters != api.OK {
			if x, e := g.Enter(3, 1, 4); x != nil || e != enters {
				t.Error("Enter:", x, e, "and not", enters)
			}
		}
		if exits != api.OK {
			if pc, e := g.Exit(3, 1); pc != 0 || e != exits {
				t.Error("Exit:", pc, e, "and not", exits)
			}
		}
		opens(t, g, open)
		logs(t, m, length, nil)
	}
	for range 5 {
		refuses(api.OK, api.ErrState)
		x := entering(t, g, 3, 1, 4)
		refuses(api.ErrState, api.ErrState)
		stepped(t, x, api.PcSeq, true)
		refuses(api.ErrState, api.OK, 1)
		idle(t, x)
		refuses(api.ErrState, api.OK, 1)
		leave(t, g, 3, 1)
		refuses(api.OK, api.ErrState)
		idle(t, x)
		refuses(api.OK, api.ErrState)
	}
}

// TestOpen: P16.5, all sets of slots, whose sections are entered in both orders; slots whose sections are not entered yet are not among them.
func TestOpen(t *testing.T) {
	const n = 6
	for set := range 1 << n {
		for _, backwards := range []bool{false, true} {
			g, _ := alone(t, n)
			var want []int
			for i := range n {
				slot := i
				if backwards {
					slot = n - 1 - i
				}
				x := entering(t, g, 0, slot, 0)
				if set>>slot&1 == 1 {
					stepped(t, x, api.PcSeq, true)
					want = append(want, slot)
				}
			}
			slices.Sort(want)
			opens(t, g, want, set, backwards)
			for len(want) > 0 {
				leave(t, g, 0, want[0])
				want = want[1:]
				opens(t, g, want, set, backwards)
			}
		}
	}
}

// TestOpenAll: P16.5, with as many slots as an engine may have, and in memory of its own.
func TestOpenAll(t *testing.T) {
	g, m := alone(t, api.MaxSlots)
	var want []int
	for slot := range api.MaxSlots {
		enter(t, g, slot, slot, slot)
		want = append(want, slot)
	}
	length := m.Len()
	opens(t, g, want)
	first, second := g.Open(), g.Open()
	for i := range first {
		first[i] = -1
	}
	if !slices.Equal(second, want) {
		t.Error("Open shares memory with what it returned before:", second)
	}
	opens(t, g, want)
	logs(t, m, length, nil)
}

// TestFree: P16.4 and P16.7, a wait makes one step for each slot in ascending order if no section is entered, whatever happened before.
func TestFree(t *testing.T) {
	for n := 1; n <= api.MaxSlots; n++ {
		for _, before := range []int{0, 1, 2} {
			g, m := alone(t, n)
			for slot := range n {
				for range before * slot {
					enter(t, g, 0, slot, 0)
					leave(t, g, 0, slot)
				}
			}
			from := m.Len()
			w := waiting(t, g, 5, sets[n%len(sets)])
			var want []api.Access
			for slot := range n {
				stepped(t, w, api.PcLook, slot == n-1, n, slot)
				want = append(want, loaded(5, slot, uint64(2*before*slot)))
			}
			idle(t, w, n)
			logs(t, m, from, want, n)
		}
	}
}

// TestBegun: P16.7, a section that is not entered yet does not hold a wait up.
func TestBegun(t *testing.T) {
	const n = 4
	g, m := alone(t, n)
	for slot := range n {
		entering(t, g, 0, slot, 0)
	}
	w := waiting(t, g, 1, 1)
	for slot := range n {
		stepped(t, w, api.PcLook, slot == n-1, slot)
	}
	shows(t, m, make([]uint64, n))
}

// TestAnyValue: P16.4 and P16.6, a wait is for every section, whatever its value and the set are.
func TestAnyValue(t *testing.T) {
	for value := range api.MaxDomain {
		for _, set := range append(slices.Clone(sets), 1<<value, ^(1 << value)) {
			g, _ := alone(t, 1)
			enter(t, g, 0, 0, value)
			w := waiting(t, g, 1, set)
			for range 4 {
				stepped(t, w, api.PcLook, false, value, set)
			}
			leave(t, g, 0, 0)
			stepped(t, w, api.PcLook, true, value, set)
			idle(t, w, value, set)
		}
	}
}

// TestHeld: P16.4, a wait looks at a slot until its number is not the first one: also a later section of this slot lets it go on.
func TestHeld(t *testing.T) {
	const n = 3
	for slot := range n {
		for looks := 1; looks <= 5; looks++ {
			for changes := 1; changes <= 6; changes++ {
				g, m := alone(t, n)
				enter(t, g, 0, slot, 0)
				w := waiting(t, g, 1, 1)
				for range slot + looks {
					stepped(t, w, api.PcLook, false, slot, looks)
				}
				for i := range changes {
					if i%2 == 0 {
						leave(t, g, 0, slot)
					} else {
						enter(t, g, 0, slot, 0)
					}
				}
				from := m.Len()
				want := []api.Access{loaded(1, slot, uint64(1+changes))}
				stepped(t, w, api.PcLook, slot == n-1, slot, looks, changes)
				for later := slot + 1; later < n; later++ {
					stepped(t, w, api.PcLook, later == n-1, slot, looks, changes, later)
					want = append(want, loaded(1, later, 0))
				}
				idle(t, w, slot, looks, changes)
				logs(t, m, from, want, slot, looks, changes)
			}
		}
	}
}

// TestEachSlot: P16.4, what was loaded first for one slot says nothing about the next one, be their numbers the same or not.
func TestEachSlot(t *testing.T) {
	const n = 4
	for _, apart := range []int{0, 1, 5} {
		g, _ := alone(t, n)
		for slot := range n {
			for range apart * slot {
				enter(t, g, 0, slot, 0)
				leave(t, g, 0, slot)
			}
			enter(t, g, 0, slot, 0)
		}
		w := waiting(t, g, 1, 1)
		for slot := range n {
			stepped(t, w, api.PcLook, false, apart, slot)
			stepped(t, w, api.PcLook, false, apart, slot)
			leave(t, g, 0, slot)
			stepped(t, w, api.PcLook, slot == n-1, apart, slot)
		}
		idle(t, w, apart)
	}
}

// TestBeforeFirstStep: P16.6, what counts is what was entered before the first step of a wait, not before Wait was called.
func TestBeforeFirstStep(t *testing.T) {
	g, _ := alone(t, 2)
	w := waiting(t, g, 1, 1)
	enter(t, g, 0, 1, 0)
	stepped(t, w, api.PcLook, false)
	for range 3 {
		stepped(t, w, api.PcLook, false)
	}
	leave(t, g, 0, 1)
	stepped(t, w, api.PcLook, true)
	// And a section that ends before the first step does not hold the wait up.
	enter(t, g, 0, 0, 0)
	w = waiting(t, g, 1, 1)
	leave(t, g, 0, 0)
	stepped(t, w, api.PcLook, false)
	stepped(t, w, api.PcLook, true)
}

// TestPassed: P16.7, sections that are entered after the wait has passed their slots do not hold it up; P16.4, those of slots that are still to come do.
func TestPassed(t *testing.T) {
	const n = 5
	for at := 1; at < n; at++ {
		for slot := range n {
			g, _ := alone(t, n)
			w := waiting(t, g, 1, 1)
			for range at {
				stepped(t, w, api.PcLook, false, at, slot)
			}
			enter(t, g, 0, slot, 0)
			for later := at; later < n; later++ {
				if later == slot {
					for range 3 {
						stepped(t, w, api.PcLook, false, at, slot)
					}
					leave(t, g, 0, slot)
				}
				stepped(t, w, api.PcLook, later == n-1, at, slot, later)
			}
			idle(t, w, at, slot)
		}
	}
}

// TestTwoEngines: P16.1 to P16.5, engines in other words of the same memory have nothing to do with each other.
func TestTwoEngines(t *testing.T) {
	m := memory(t, 0, 0, 9, 0, 0, 0, 9)
	a, b := built(t, m, 0, 2), built(t, m, 3, 3)
	enter(t, a, 0, 0, 0)
	w := waiting(t, b, 1, 1)
	for slot := range 3 {
		stepped(t, w, api.PcLook, slot == 2, slot)
	}
	enter(t, b, 0, 0, 0)
	enter(t, b, 0, 2, 0)
	opens(t, a, []int{0})
	opens(t, b, []int{0, 2})
	shows(t, m, []uint64{1, 0, 9, 1, 0, 1, 9})
	leave(t, a, 0, 0)
	w = waiting(t, a, 1, 1)
	stepped(t, w, api.PcLook, false)
	stepped(t, w, api.PcLook, true)
	shows(t, m, []uint64{2, 0, 9, 1, 0, 1, 9})
}

// TestFar: P16.1 to P16.4, an engine whose words are the last ones of the greatest memory.
func TestFar(t *testing.T) {
	const base = api.MaxWords - api.MaxSlots
	m := memory(t, make([]uint64, api.MaxWords)...)
	g := built(t, m, base, api.MaxSlots)
	enter(t, g, 63, 63, 63)
	w := waiting(t, g, 0, 1)
	for range api.MaxSlots + 2 {
		stepped(t, w, api.PcLook, false)
	}
	leave(t, g, 63, 63)
	stepped(t, w, api.PcLook, true)
	l := m.Log(0)
	if l[0] != stored(63, api.MaxWords-1, 0) || l[1] != loaded(0, base, 0) || l[len(l)-1] != loaded(0, api.MaxWords-1, 2) {
		t.Error("log:", l)
	}
}

// section is a slot as the document speaks of it.
type section struct {
	has, entered bool
	thread       int // that of Enter
	times        int // how often it was entered and left
}

// waiter is a wait as the document speaks of it.
type waiter struct {
	thread int
	slot   int // the slot that is looked at
	first  int // the number that was loaded first for it; -1: it was not looked at yet
	begun  bool
	over   bool
	owed   map[[2]int]bool // the sections that were entered before the first step, by slot and number, and not left yet
	quiet  bool            // no section was entered at the first step, and none since then
	steps  int
}

// scene is an engine with its operations, and the same as the document speaks of them.
type scene struct {
	m        *words.Mem
	g        *Engine
	base     int
	enters   []*Enter // the latest one of each slot
	waits    []*Wait
	sections []section
	waiters  []*waiter
	log      []api.Access
}

// set returns a scene with an engine of n slots.
func set(t *testing.T, base, n int) *scene {
	t.Helper()
	m := memory(t, make([]uint64, base+n+1)...)
	return &scene{m: m, g: built(t, m, base, n), base: base, enters: make([]*Enter, n), sections: make([]section, n)}
}

// enter begins to enter on both sides.
func (c *scene) enter(t *testing.T, thread, slot, value int) {
	t.Helper()
	s := &c.sections[slot]
	want := enterError(s.has, len(c.sections), thread, slot, value)
	x, e := c.g.Enter(thread, slot, value)
	if e != want || (x != nil) != (want == api.OK) {
		t.Fatal("Enter:", thread, slot, value, x, e, "and not", want, c.log)
	}
	if e == api.OK {
		s.has, s.thread = true, thread
		c.enters[slot] = x
	}
}

// stepEnter performs a step of the latest operation that enters a section of a slot, if there is one, on both sides.
func (c *scene) stepEnter(t *testing.T, slot int) {
	t.Helper()
	s := &c.sections[slot]
	if !s.has || s.entered {
		stepped(t, c.enters[slot], api.PcIdle, false, slot, c.log)
		return
	}
	stepped(t, c.enters[slot], api.PcSeq, true, slot, c.log)
	c.log = append(c.log, stored(s.thread, c.base+slot, uint64(s.times)))
	s.entered = true
	s.times++
	for _, w := range c.waiters {
		w.quiet = false
	}
}

// exit leaves a section on both sides.
func (c *scene) exit(t *testing.T, thread, slot int) {
	t.Helper()
	s := &c.sections[slot]
	want, pc := exitError(s.entered, len(c.sections), thread, slot), uint8(0)
	if want == api.OK {
		pc = api.PcSeq
	}
	if p, e := c.g.Exit(thread, slot); p != pc || e != want {
		t.Fatal("Exit:", thread, slot, p, e, "and not", pc, want, c.log)
	}
	if want != api.OK {
		return
	}
	for _, w := range c.waiters {
		delete(w.owed, [2]int{slot, s.times})
	}
	c.log = append(c.log, stored(thread, c.base+slot, uint64(s.times)))
	s.has, s.entered = false, false
	s.times++
}

// wait begins to wait on both sides.
func (c *scene) wait(t *testing.T, thread int, set uint64) {
	t.Helper()
	c.waits = append(c.waits, waiting(t, c.g, thread, set))
	c.waiters = append(c.waiters, &waiter{thread: thread, first: -1})
}

// begin notes which sections are entered when a wait makes its first step.
func (c *scene) begin(w *waiter) {
	w.begun, w.quiet, w.owed = true, true, map[[2]int]bool{}
	for slot, s := range c.sections {
		if s.entered {
			w.owed[[2]int{slot, s.times}] = true
			w.quiet = false
		}
	}
}

// stepWait performs a step of a wait on both sides, and looks at grace and progress (P16.6, P16.7).
func (c *scene) stepWait(t *testing.T, i int) {
	t.Helper()
	w := c.waiters[i]
	if w.over {
		stepped(t, c.waits[i], api.PcIdle, false, i, c.log)
		return
	}
	if !w.begun {
		c.begin(w)
	}
	now := c.sections[w.slot].times
	c.log = append(c.log, loaded(w.thread, c.base+w.slot, uint64(now)))
	w.steps++
	if w.first < 0 {
		w.first = now
	}
	if w.first%2 == 0 || now != w.first {
		w.slot++
		w.first = -1
	}
	w.over = w.slot == len(c.sections)
	stepped(t, c.waits[i], api.PcLook, w.over, i, c.log)
	if w.over && len(w.owed) > 0 {
		t.Error("a wait ended before these sections:", w.owed, i, c.log)
	}
	if w.quiet && w.over != (w.steps == len(c.sections)) {
		t.Error("a wait that nothing held up made other steps than one for each slot:", w.steps, w.over, i, c.log)
	}
}

// look compares both sides.
func (c *scene) look(t *testing.T) {
	t.Helper()
	all := make([]uint64, c.base+len(c.sections)+1)
	var open []int
	for slot, s := range c.sections {
		all[c.base+slot] = uint64(s.times)
		if s.entered {
			open = append(open, slot)
		}
	}
	shows(t, c.m, all, c.log)
	opens(t, c.g, open, c.log)
	logs(t, c.m, 0, c.log)
}

// TestSchedules: P16.2 to P16.7, all sequences of six calls and steps of two slots and two waits.
func TestSchedules(t *testing.T) {
	const length, kinds = 6, 8
	total := 1
	for range length {
		total *= kinds
	}
	for n := range total {
		c := set(t, 0, 2)
		c.wait(t, 2, 1)
		c.wait(t, 3, 1<<63)
		for range length {
			switch k := n % kinds; k {
			case 0, 1:
				c.enter(t, k, k, k)
			case 2, 3:
				c.stepEnter(t, k-2)
			case 4, 5:
				c.exit(t, k-4, k-4)
			case 6, 7:
				c.stepWait(t, k-6)
			}
			n /= kinds
		}
		c.look(t)
		if t.Failed() {
			return
		}
	}
}

// TestReaders: P16.4 to P16.7, all sequences of nine steps of a wait and of sections of two slots, which are entered and left in turn.
func TestReaders(t *testing.T) {
	const length, kinds = 9, 3
	total := 1
	for range length {
		total *= kinds
	}
	for start := range 4 {
		for n := range total {
			c := set(t, 1, 2)
			turn := func(slot int) {
				if c.sections[slot].entered {
					c.exit(t, slot, slot)
					return
				}
				c.enter(t, slot, slot, slot)
				c.stepEnter(t, slot)
			}
			for slot := range 2 {
				if start>>slot&1 == 1 {
					turn(slot)
				}
			}
			c.wait(t, 2, 4)
			for range length {
				if k := n % kinds; k < 2 {
					turn(k)
				} else {
					c.stepWait(t, 0)
				}
				n /= kinds
			}
			c.look(t)
			if t.Failed() {
				return
			}
		}
	}
}

// draws returns a function that returns numbers below a bound, which look random but are always the same.
func draws(seed uint64) func(bound int) int {
	return func(bound int) int {
		seed = seed*6364136223846793005 + 1442695040888963407
		return int(seed >> 33 % uint64(bound))
	}
}

// TestLong: P16.2 to P16.7, long sequences with few and many slots, threads and waits.
func TestLong(t *testing.T) {
	for seed := range uint64(60) {
		draw := draws(seed)
		slots := 1 + draw(8)
		if seed%10 == 0 {
			slots = api.MaxSlots
		}
		c := set(t, draw(5), slots)
		busy := 1 + draw(6)
		for range 2000 {
			thread, slot := draw(api.MaxThreads), draw(slots)
			switch k := draw(10 + busy); {
			case k == 0 && len(c.waits) < 20:
				c.wait(t, thread, 1+uint64(draw(1<<30)))
			case k == 1:
				c.enter(t, thread, slot, draw(api.MaxDomain))
			case k == 2:
				c.stepEnter(t, slot)
			case k < 6:
				c.exit(t, thread, slot)
			case len(c.waits) > 0:
				c.stepWait(t, draw(len(c.waits)))
			}
		}
		// When all sections are left, each wait ends soon.
		for slot := range slots {
			c.stepEnter(t, slot)
			c.exit(t, 0, slot)
		}
		for i, w := range c.waiters {
			for range slots {
				c.stepWait(t, i)
			}
			if !w.over {
				t.Error("a wait goes on, but nothing holds it up:", seed, i)
			}
		}
		c.look(t)
		if t.Failed() {
			return
		}
	}
}
