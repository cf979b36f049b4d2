package latch

import (
	"math"
	"slices"
	"testing"

	"leapfrog/api"
	"leapfrog/words"
)

// threads and nobody are numbers that are threads, and that are none.
var (
	threads = []int{0, 1, 2, 31, 62, 63}
	nobody  = []int{-1, 64, 65, -64, 1 << 32, 1<<32 + 1, math.MaxInt, math.MinInt}
)

// allowed and wrong are numbers of tries that an operation may have, and that none may have.
var (
	allowed = []int{0, 1, 2, 3, 128, 254, 255}
	wrong   = []int{-1, 256, 257, -255, 1 << 32, 1<<32 + 1, math.MaxInt, math.MinInt}
)

// nowhere returns numbers that are no address of a memory of n words.
func nowhere(n int) []int {
	return []int{n, -1, n + 1, 2 * n, -n, n + 1<<32, 1<<16 + n, math.MaxInt, math.MinInt}
}

// memory returns a memory with these words.
func memory(t *testing.T, l ...uint64) *words.Mem {
	t.Helper()
	m, e := words.New(l...)
	if m == nil || e != api.OK {
		t.Fatal("words.New:", len(l), m, e)
	}
	return m
}

// begun returns an operation that has begun.
func begun(t *testing.T, m *words.Mem, thread, addr, tries int) *Lock {
	t.Helper()
	before := m.Len()
	l, e := New(m, thread, addr, tries)
	if l == nil || e != api.OK {
		t.Fatal("New:", thread, addr, tries, l, e)
	}
	if m.Len() != before {
		t.Error("New makes an access:", thread, addr, tries)
	}
	return l
}

// stepped makes a step, and looks at what it returns.
func stepped(t *testing.T, l *Lock, pc uint8, done bool, what ...any) {
	t.Helper()
	if n := l.Next(); n != pc {
		t.Error("Next:", n, "and not", pc, what)
	}
	if p, d := l.Step(); p != pc || d != done {
		t.Error("Step:", p, d, "and not", pc, done, what)
	}
}

// ended looks at the result of an operation.
func ended(t *testing.T, l *Lock, failures int, e api.Errno, what ...any) {
	t.Helper()
	if n, got := l.Result(); n != failures || got != e {
		t.Error("Result:", n, got, "and not", failures, e, what)
	}
}

// shows looks at the words and the length of the log of a memory.
func shows(t *testing.T, m *words.Mem, length int, want []uint64, what ...any) {
	t.Helper()
	if l := m.Words(); !slices.Equal(l, want) {
		t.Error("words:", l, "and not", want, what)
	}
	if n := m.Len(); n != length {
		t.Error("accesses:", n, "and not", length, what)
	}
}

// TestExamples: the chapter's examples.
func TestExamples(t *testing.T) {
	m := memory(t, 0)
	a := begun(t, m, 0, 0, 0)
	stepped(t, a, api.PcLatch, true)
	ended(t, a, 0, api.OK)
	shows(t, m, 1, []uint64{1})
	b := begun(t, m, 1, 0, 2)
	stepped(t, b, api.PcLatch, false)
	stepped(t, b, api.PcLatch, true)
	ended(t, b, 2, api.ErrRetry)
	stepped(t, b, api.PcIdle, false)
	if e := Unlock(m, 1, 0); e != api.ErrState {
		t.Error("Unlock of another thread:", e)
	}
	if e := Unlock(m, 0, 0); e != api.OK {
		t.Error("Unlock:", e)
	}
	shows(t, m, 4, []uint64{0})
}

// newError is the error of New as P13.1 says.
func newError(m *words.Mem, thread, addr, tries int) api.Errno {
	switch {
	case m == nil:
		return api.ErrNil
	case !(0 <= thread && thread <= api.MaxThreads-1) || !(0 <= tries && tries <= api.MaxTries):
		return api.ErrArg
	case !(0 <= addr && addr <= len(m.Words())-1):
		return api.ErrRange
	}
	return api.OK
}

// TestNew: P13.1, with memories of several sizes and none, and the order of the errors.
func TestNew(t *testing.T) {
	for _, m := range []*words.Mem{nil, memory(t, 0), memory(t, 5, 0, 7), memory(t, make([]uint64, api.MaxWords)...)} {
		n := len(m.Words())
		places := append(nowhere(n), 0, n/2, n-1)
		for _, thread := range slices.Concat(threads, nobody) {
			for _, tries := range slices.Concat(allowed, wrong) {
				for _, addr := range places {
					l, e := New(m, thread, addr, tries)
					if want := newError(m, thread, addr, tries); e != want || (l != nil) != (want == api.OK) {
						t.Fatal("New:", n, thread, addr, tries, l, e, "and not", want)
					}
				}
			}
		}
		if m.Len() != 0 {
			t.Error("New makes accesses:", n, m.Len())
		}
	}
}

// TestAllNumbers: P13.1, all threads and all numbers of tries about those that are allowed.
func TestAllNumbers(t *testing.T) {
	m := memory(t, 0)
	for thread := -3; thread <= 70; thread++ {
		for tries := -3; tries <= 260; tries++ {
			if l, e := New(m, thread, 0, tries); e != newError(m, thread, 0, tries) || (l == nil) != (e != api.OK) {
				t.Error("New:", thread, tries, l, e)
			}
		}
		want := newError(m, thread, 0, 0)
		if want == api.OK {
			want = api.ErrState
		}
		if e := Unlock(m, thread, 0); e != want {
			t.Error("Unlock:", thread, e, "and not", want)
		}
	}
	shows(t, m, 0, []uint64{0})
}

// TestNil: P13.2, the methods of a nil object, and P13.1 and P13.3 for a nil memory.
func TestNil(t *testing.T) {
	var l *Lock
	stepped(t, l, api.PcIdle, false)
	ended(t, l, 0, api.ErrNil)
	if l, e := New(nil, -1, -1, -1); l != nil || e != api.ErrNil {
		t.Error("New:", l, e)
	}
	if e := Unlock(nil, -1, -1); e != api.ErrNil {
		t.Error("Unlock:", e)
	}
}

// TestFree: P13.2 and P13.5, every thread locks each word of a memory that is 0 with its first step, whatever its tries are.
func TestFree(t *testing.T) {
	for thread := range api.MaxThreads {
		for _, tries := range allowed {
			for addr := range 4 {
				m := memory(t, 0, 0, 0, 0)
				l := begun(t, m, thread, addr, tries)
				ended(t, l, 0, api.ErrState, thread, tries)
				stepped(t, l, api.PcLatch, true, thread, tries)
				want := make([]uint64, 4)
				want[addr] = 1 + uint64(thread)
				for range 3 {
					ended(t, l, 0, api.OK, thread, tries)
					stepped(t, l, api.PcIdle, false, thread, tries)
				}
				shows(t, m, 1, want, thread, tries)
				a := api.Access{Thread: thread, Addr: addr, Kind: api.CompareAndSwap, New: want[addr], Swapped: true}
				if log := m.Log(0); !slices.Equal(log, []api.Access{a}) {
					t.Error("log:", log, "and not", a)
				}
			}
		}
	}
}

// others are words of which none is a latch that is free: marks of threads, that of the thread itself too, and other numbers.
var others = []uint64{1, 2, 3, 4, 63, 64, 65, 1 << 32, 1 << 63, math.MaxUint64 - 1, math.MaxUint64}

// TestTaken: P13.2, an operation fails at a word that is not 0, and ends as soon as it has failed as often as it may.
func TestTaken(t *testing.T) {
	for _, word := range others {
		for thread := range 4 {
			for tries := 1; tries <= api.MaxTries; tries += 1 + tries/7 {
				fails(t, word, thread, tries)
			}
			fails(t, word, thread, api.MaxTries)
		}
	}
}

// fails performs an operation on a word that is not 0 and stays.
func fails(t *testing.T, word uint64, thread, tries int) {
	t.Helper()
	m := memory(t, 0, word)
	l := begun(t, m, thread, 1, tries)
	for n := range tries {
		ended(t, l, n, api.ErrState, word, thread, tries)
		stepped(t, l, api.PcLatch, n == tries-1, word, thread, tries, n)
	}
	for range 3 {
		ended(t, l, tries, api.ErrRetry, word, thread, tries)
		stepped(t, l, api.PcIdle, false, word, thread, tries)
	}
	shows(t, m, tries, []uint64{0, word}, thread, tries)
	a := api.Access{Thread: thread, Addr: 1, Kind: api.CompareAndSwap, Old: word, New: word}
	for _, got := range m.Log(0) {
		if got != a {
			t.Error("access:", got, "and not", a)
		}
	}
}

// TestEndless: P13.2, an operation with tries 0 goes on however often it fails, and locks when the latch is 0.
func TestEndless(t *testing.T) {
	m := memory(t, 9)
	l := begun(t, m, 3, 0, 0)
	for n := range 70_000 {
		if pc, done := l.Step(); pc != api.PcLatch || done {
			t.Fatal("Step:", n, pc, done)
		}
		if got, e := l.Result(); got != n+1 || e != api.ErrState {
			t.Fatal("Result:", n, got, e)
		}
	}
	m.Store(5, 0, 0)
	stepped(t, l, api.PcLatch, true)
	ended(t, l, 70_000, api.OK)
	shows(t, m, 70_002, []uint64{4})
}

// TestLate: P13.2 and P13.5, an operation locks at each step at which the latch is 0, up to the last one that it has.
func TestLate(t *testing.T) {
	for tries := 1; tries <= 12; tries++ {
		for before := range tries {
			m := memory(t, 8)
			l := begun(t, m, 2, 0, tries)
			for range before {
				stepped(t, l, api.PcLatch, false, tries, before)
			}
			m.Store(7, 0, 0)
			stepped(t, l, api.PcLatch, true, tries, before)
			ended(t, l, before, api.OK, tries, before)
			shows(t, m, before+2, []uint64{3}, tries, before)
			// What happens to the word after the end does not change the result.
			m.Store(7, 0, 8)
			stepped(t, l, api.PcIdle, false, tries, before)
			ended(t, l, before, api.OK, tries, before)
		}
	}
}

// TestRetryStays: P13.2, an operation that gave up does not lock, even if the latch is 0 later.
func TestRetryStays(t *testing.T) {
	m := memory(t, 8)
	l := begun(t, m, 2, 0, 1)
	stepped(t, l, api.PcLatch, true)
	m.Store(7, 0, 0)
	stepped(t, l, api.PcIdle, false)
	ended(t, l, 1, api.ErrRetry)
	shows(t, m, 2, []uint64{0})
}

// TestUnlock: P13.3, with all errors in their order, which are no accesses, and the store.
func TestUnlock(t *testing.T) {
	for _, word := range append(others, 0, 32) {
		for _, thread := range slices.Concat(threads, nobody) {
			for _, addr := range append(nowhere(3), 0, 1, 2) {
				m := memory(t, word, word, word)
				want := newError(m, thread, addr, 0)
				if want == api.OK && (word == 0 || word-1 != uint64(thread)) {
					want = api.ErrState
				}
				if e := Unlock(m, thread, addr); e != want {
					t.Error("Unlock:", word, thread, addr, e, "and not", want)
				}
				after, n := []uint64{word, word, word}, 0
				if want == api.OK {
					after[addr], n = 0, 1
					a := api.Access{Thread: thread, Addr: addr, Kind: api.Store, Old: word}
					if log := m.Log(0); !slices.Equal(log, []api.Access{a}) {
						t.Error("log:", log, "and not", a)
					}
				}
				shows(t, m, n, after, word, thread, addr)
			}
		}
	}
}

// party is an operation as the document speaks of it.
type party struct {
	thread, addr, tries int
	failures            int
	over                bool
	e                   api.Errno // after the end
}

// shared are latches as the document speaks of them: which thread has each, or -1, and the accesses so far.
type shared struct {
	has []int
	log []api.Access
}

// note appends an access of a latch, which another thread (or none) has after it.
func (s *shared) note(thread, addr int, kind uint8, to int, swapped bool) {
	s.log = append(s.log, api.Access{Thread: thread, Addr: addr, Kind: kind, Old: uint64(1 + s.has[addr]), New: uint64(1 + to), Swapped: swapped})
	s.has[addr] = to
}

// step performs a step as the document says.
func (p *party) step(s *shared) (pc uint8, done bool) {
	if p.over {
		return api.PcIdle, false
	}
	if s.has[p.addr] < 0 {
		s.note(p.thread, p.addr, api.CompareAndSwap, p.thread, true)
		p.over = true
		return api.PcLatch, true
	}
	s.note(p.thread, p.addr, api.CompareAndSwap, s.has[p.addr], false)
	p.failures++
	if p.tries > 0 && p.failures >= p.tries {
		p.over, p.e = true, api.ErrRetry
	}
	return api.PcLatch, p.over
}

// unlock unlocks as the document says.
func (s *shared) unlock(thread, addr int) api.Errno {
	if s.has[addr] != thread {
		return api.ErrState
	}
	s.note(thread, addr, api.Store, -1, false)
	return api.OK
}

// scene is latches, the operations on them, and the same as the document speaks of them.
type scene struct {
	m       *words.Mem
	locks   []*Lock
	s       shared
	parties []party
}

// set returns a scene with latches that are free, and operations that have begun.
func set(t *testing.T, latches int, parties ...party) *scene {
	t.Helper()
	c := &scene{m: memory(t, make([]uint64, latches)...), parties: slices.Clone(parties)}
	for range latches {
		c.s.has = append(c.s.has, -1)
	}
	for _, p := range parties {
		c.locks = append(c.locks, begun(t, c.m, p.thread, p.addr, p.tries))
	}
	return c
}

// step performs a step of an operation on both sides.
func (c *scene) step(t *testing.T, i int) {
	t.Helper()
	l, p := c.locks[i], &c.parties[i]
	next := l.Next()
	pc, done := l.Step()
	wantPc, wantDone := p.step(&c.s)
	if next != wantPc || pc != wantPc || done != wantDone {
		t.Fatal("step:", i, next, pc, done, "and not", wantPc, wantDone, c.s.log)
	}
}

// unlock unlocks a latch on both sides.
func (c *scene) unlock(t *testing.T, thread, addr int) {
	t.Helper()
	if got, want := Unlock(c.m, thread, addr), c.s.unlock(thread, addr); got != want {
		t.Fatal("unlock:", thread, addr, got, "and not", want, c.s.log)
	}
}

// look compares both sides: the results, the log, and each word with the thread that has the latch (P13.4).
func (c *scene) look(t *testing.T) {
	t.Helper()
	for i, p := range c.parties {
		e := p.e
		if !p.over {
			e = api.ErrState
		}
		ended(t, c.locks[i], p.failures, e, i, c.s.log)
	}
	for addr, thread := range c.s.has {
		if word, _ := c.m.Peek(addr); word != uint64(1+thread) {
			t.Fatal("word:", addr, word, "but the thread is", thread, c.s.log)
		}
	}
	if !slices.Equal(c.m.Log(0), c.s.log) {
		t.Fatal("log:", c.m.Log(0), "and not", c.s.log)
	}
}

// TestSchedules: P13.2 to P13.5, all sequences of seven steps and unlockings of three operations and two threads.
func TestSchedules(t *testing.T) {
	const length, kinds = 7, 5
	total := 1
	for range length {
		total *= kinds
	}
	for n := range total {
		// Two of the operations are of one thread, which finds its own latch locked.
		c := set(t, 1, party{thread: 0, tries: 2}, party{thread: 1, tries: 3}, party{thread: 0, tries: 0})
		for range length {
			if k := n % kinds; k < 3 {
				c.step(t, k)
			} else {
				c.unlock(t, k-3, 0)
			}
			n /= kinds
		}
		c.look(t)
	}
}

// draws returns a function that returns numbers below a bound, which look random but are always the same.
func draws(seed uint64) func(bound int) int {
	return func(bound int) int {
		seed = seed*6364136223846793005 + 1442695040888963407
		return int(seed >> 33 % uint64(bound))
	}
}

// TestLong: P13.2 to P13.5, long sequences with many threads and several latches, where operations begin anew.
func TestLong(t *testing.T) {
	for seed := range uint64(40) {
		draw := draws(seed)
		latches, people := 1+draw(4), 2+draw(20)
		c := set(t, latches)
		begin := func() party {
			return party{thread: draw(people) * 3, addr: draw(latches), tries: draw(6)}
		}
		for range 600 {
			switch k := draw(10); {
			case k == 0 && len(c.locks) < 40:
				p := begin()
				c.parties, c.locks = append(c.parties, p), append(c.locks, begun(t, c.m, p.thread, p.addr, p.tries))
			case k < 4:
				addr := draw(latches)
				thread := draw(people) * 3
				if has := c.s.has[addr]; draw(3) == 0 && has >= 0 {
					thread = has
				}
				c.unlock(t, thread, addr)
			case len(c.locks) > 0:
				c.step(t, draw(len(c.locks)))
			}
			for addr, thread := range c.s.has {
				if word, _ := c.m.Peek(addr); word != uint64(1+thread) {
					t.Fatal("word:", addr, word, "but the thread is", thread)
				}
			}
		}
		c.look(t)
	}
}
