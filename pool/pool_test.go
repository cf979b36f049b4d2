package pool

import (
	"math"
	"slices"
	"testing"

	"leapfrog/api"
	"leapfrog/field"
	"leapfrog/layout"
	"leapfrog/words"
)

// threads and nobody are numbers that are threads, and that are none.
var (
	threads = []int{0, 1, 2, 31, 62, 63}
	nobody  = []int{-1, 64, 65, -64, 1 << 32, 1<<32 + 1, math.MaxInt, math.MinInt}
)

// allowed and wrong are numbers of tries that an operation may have, and that none may have.
var (
	allowed = []int{0, 1, 2, 3, 128, 254, 255}
	wrong   = []int{-1, 256, 257, -255, 1 << 32, 1<<32 + 1, math.MaxInt, math.MinInt}
)

// heights and flat are numbers that are heights, and that are none.
var (
	heights = []int{1, 2, 3, 4, 5, 6}
	flat    = []int{0, -1, 7, 8, -6, 1 << 32, 1<<32 + 1, math.MaxInt, math.MinInt}
)

// strange returns numbers that are no tower of n towers.
func strange(n int) []int {
	return []int{0, -1, -n, n + 1, n + 2, 2*n + 1, 1 << 16, 1<<16 + 1, 1 << 32, 1<<32 + 1, math.MaxInt, math.MinInt}
}

// example is the configuration of the examples of chapter 9.
var example = api.Config{Threads: 1, Slots: 2, Engine: api.EngEach, Domain: api.Domain{Kind: api.MapMod, N: 2}, Towers: [api.MaxHeight]int{2, 1}, Locks: 1, Tries: 1}

// towers returns a configuration with these numbers of towers, and an engine that depends on them.
func towers(counts ...int) api.Config {
	c := api.Config{Threads: 3, Slots: 1 + len(counts), Engine: api.EngFull, Domain: api.Domain{Kind: api.MapOne}, Locks: 2, Tries: 5}
	copy(c.Towers[:], counts)
	switch c.Towers[0] % 3 {
	case 1:
		c.Engine, c.Buckets = api.EngGate, 3
	case 2:
		c.Engine, c.Domain = api.EngEach, api.Domain{Kind: api.MapMod, N: 5}
	}
	return c
}

// place returns a layout.
func place(t *testing.T, c api.Config) *layout.Layout {
	t.Helper()
	l, e := layout.New(c)
	if l == nil || e != api.OK {
		t.Fatal("layout.New:", c, l, e)
	}
	return l
}

// memory returns a memory with these words.
func memory(t *testing.T, l ...uint64) *words.Mem {
	t.Helper()
	m, e := words.New(l...)
	if m == nil || e != api.OK {
		t.Fatal("words.New:", len(l), m, e)
	}
	return m
}

// fresh returns the pools of a new store, with its memory and its layout.
func fresh(t *testing.T, c api.Config) (*Pool, *words.Mem, *layout.Layout) {
	t.Helper()
	l := place(t, c)
	m := memory(t, l.Initial()...)
	p, e := New(m, l)
	if p == nil || e != api.OK {
		t.Fatal("New:", c, p, e)
	}
	return p, m, l
}

// taking returns an operation that has begun to take a tower.
func taking(t *testing.T, p *Pool, thread, height, tries int) *Take {
	t.Helper()
	o, e := p.Take(thread, height, tries)
	if o == nil || e != api.OK {
		t.Fatal("Take:", thread, height, tries, o, e)
	}
	return o
}

// giving returns an operation that has begun to give a tower back.
func giving(t *testing.T, p *Pool, thread, tower int) *Give {
	t.Helper()
	o, e := p.Give(thread, tower)
	if o == nil || e != api.OK {
		t.Fatal("Give:", thread, tower, o, e)
	}
	return o
}

// operation is a Take or a Give.
type operation interface {
	Step() (pc uint8, done bool)
	Next() uint8
}

// stepped makes steps, of which the last one ends the operation if done is true, and looks at what they return.
func stepped(t *testing.T, o operation, done bool, pcs ...uint8) {
	t.Helper()
	for i, pc := range pcs {
		if n := o.Next(); n != pc {
			t.Error("Next:", i, n, "and not", pc)
		}
		want := done && i == len(pcs)-1
		if p, d := o.Step(); p != pc || d != want {
			t.Error("Step:", i, p, d, "and not", pc, want)
		}
	}
}

// ended looks at the result of an operation.
func ended(t *testing.T, o *Take, tower, failures int, e api.Errno) {
	t.Helper()
	if n, f, got := o.Result(); n != tower || f != failures || got != e {
		t.Error("Result:", n, f, got, "and not", tower, failures, e)
	}
}

// lists looks at the towers on the stack of a height.
func lists(t *testing.T, p *Pool, height int, want ...int) {
	t.Helper()
	if l, e := p.List(height); !slices.Equal(l, want) || e != api.OK {
		t.Error("List:", height, l, e, "and not", want)
	}
}

// outside looks at the towers that are out.
func outside(t *testing.T, p *Pool, want ...int) {
	t.Helper()
	if l := p.Out(); !slices.Equal(l, want) {
		t.Error("Out:", l, "and not", want)
	}
}

// was looks at the generation of a tower.
func was(t *testing.T, p *Pool, tower, want int) {
	t.Helper()
	if n, e := p.Gen(tower); n != want || e != api.OK {
		t.Error("Gen:", tower, n, e, "and not", want)
	}
}

// TestExamples: the chapter's examples.
func TestExamples(t *testing.T) {
	p, m, l := fresh(t, example)
	lists(t, p, 1, 1, 2)
	lists(t, p, 2, 3)
	lists(t, p, 3)
	a := taking(t, p, 0, 1, 0)
	stepped(t, a, true, api.PcPool, api.PcPoolNext, api.PcTake)
	ended(t, a, 1, 0, api.OK)
	outside(t, p, 1)
	lists(t, p, 1, 2)
	if w, _ := m.Peek(l.Places().Pools); field.Tag(w) != 1 || field.Tower(w) != 2 {
		t.Error("head:", field.Tag(w), field.Tower(w))
	}
	b := taking(t, p, 0, 3, 0)
	stepped(t, b, true, api.PcPool)
	ended(t, b, 0, 0, api.ErrFull)
	c := giving(t, p, 1, 1)
	stepped(t, c, true, api.PcPool, api.PcPoolLink, api.PcGive)
	lists(t, p, 1, 1, 2)
	was(t, p, 1, 1)
	d := taking(t, p, 0, 1, 1)
	stepped(t, d, false, api.PcPool, api.PcPoolNext)
	e := taking(t, p, 1, 1, 0)
	stepped(t, e, true, api.PcPool, api.PcPoolNext, api.PcTake)
	ended(t, e, 1, 0, api.OK)
	stepped(t, d, true, api.PcTake)
	ended(t, d, 0, 1, api.ErrRetry)
}

// TestNew: P14.1, memories of all sizes about that of the layout, and what new pools are.
func TestNew(t *testing.T) {
	configs := []api.Config{example, towers(), towers(1), towers(0, 0, 0, 0, 0, 1), towers(3, 1, 4, 1, 5, 2), towers(api.MaxTowers), towers(0, 0, 0, 0, 0, api.MaxTowers)}
	for _, c := range configs {
		l := place(t, c)
		n := l.Places().Words
		for _, size := range []int{n, n - 1, n + 1, 1, 2, n / 2, 2 * n, api.MaxWords} {
			m := memory(t, make([]uint64, size)...)
			p, e := New(m, l)
			want := api.OK
			if size != n {
				want = api.ErrArg
			}
			if e != want || (p != nil) != (want == api.OK) || m.Len() != 0 {
				t.Error("New:", c.Towers, size, p, e, "and not", want, m.Len())
			}
		}
		p, m, _ := fresh(t, c)
		outside(t, p)
		tower := 0
		for i, count := range c.Towers {
			var want []int
			for range count {
				tower++
				want = append(want, tower)
				was(t, p, tower, 0)
			}
			lists(t, p, i+1, want...)
		}
		if m.Len() != 0 {
			t.Error("accesses:", m.Len())
		}
	}
}

// TestNil: P14.1 to P14.4 for nil objects, whatever else is wrong.
func TestNil(t *testing.T) {
	l := place(t, example)
	m := memory(t, 0)
	for _, f := range []func() (*Pool, api.Errno){
		func() (*Pool, api.Errno) { return New(nil, nil) },
		func() (*Pool, api.Errno) { return New(nil, l) },
		func() (*Pool, api.Errno) { return New(m, nil) },
	} {
		if p, e := f(); p != nil || e != api.ErrNil {
			t.Error("New:", p, e)
		}
	}
	var p *Pool
	for _, n := range []int{-1, 0, 1, 7, 64, 256} {
		if o, e := p.Take(n, n, n); o != nil || e != api.ErrNil {
			t.Error("Take:", n, o, e)
		}
		if o, e := p.Give(n, n); o != nil || e != api.ErrNil {
			t.Error("Give:", n, o, e)
		}
		if l, e := p.List(n); len(l) != 0 || e != api.ErrNil {
			t.Error("List:", n, l, e)
		}
		if gen, e := p.Gen(n); gen != 0 || e != api.ErrNil {
			t.Error("Gen:", n, gen, e)
		}
	}
	outside(t, p)
	var take *Take
	stepped(t, take, false, api.PcIdle, api.PcIdle)
	ended(t, take, 0, 0, api.ErrNil)
	var give *Give
	stepped(t, give, false, api.PcIdle, api.PcIdle)
}

// TestTakeErrors: P14.2, all arguments about the allowed ones, and the order of the errors.
func TestTakeErrors(t *testing.T) {
	p, m, _ := fresh(t, example)
	check := func(thread, height, tries int) {
		want := api.OK
		if !(0 <= thread && thread <= api.MaxThreads-1) || !(0 <= tries && tries <= api.MaxTries) {
			want = api.ErrArg
		} else if !(1 <= height && height <= api.MaxHeight) {
			want = api.ErrRange
		}
		if o, e := p.Take(thread, height, tries); e != want || (o != nil) != (want == api.OK) {
			t.Error("Take:", thread, height, tries, o, e, "and not", want)
		}
	}
	for _, thread := range slices.Concat(threads, nobody) {
		for _, height := range slices.Concat(heights, flat) {
			for _, tries := range slices.Concat(allowed, wrong) {
				check(thread, height, tries)
			}
		}
	}
	for n := -300; n <= 300; n++ {
		check(n, 1, 0)
		check(0, n, 0)
		check(0, 1, n)
	}
	outside(t, p)
	lists(t, p, 1, 1, 2)
	if m.Len() != 0 {
		t.Error("Take makes accesses:", m.Len())
	}
}

// TestGiveErrors: P14.3, threads and towers that do not exist, towers that are not out, and the order of the errors.
func TestGiveErrors(t *testing.T) {
	p, m, l := fresh(t, towers(2, 0, 1))
	a := taking(t, p, 0, 1, 0)
	stepped(t, a, true, api.PcPool, api.PcPoolNext, api.PcTake)
	length := m.Len()
	for _, thread := range slices.Concat(threads, nobody) {
		for _, tower := range append(strange(l.Towers()), 2, 3) {
			want := api.ErrRange
			if !(0 <= thread && thread <= api.MaxThreads-1) {
				want = api.ErrArg
			} else if tower == 2 || tower == 3 {
				want = api.ErrState
			}
			if o, e := p.Give(thread, tower); o != nil || e != want {
				t.Error("Give:", thread, tower, o, e, "and not", want)
			}
		}
		if slices.Contains(nobody, thread) {
			if o, e := p.Give(thread, 1); o != nil || e != api.ErrArg {
				t.Error("Give:", thread, o, e)
			}
		}
	}
	outside(t, p, 1)
	was(t, p, 1, 0)
	if m.Len() != length {
		t.Error("Give makes accesses:", m.Len())
	}
}

// refused looks whether a tower cannot be given back.
func refused(t *testing.T, p *Pool, tower int) {
	t.Helper()
	for _, thread := range threads {
		if o, e := p.Give(thread, tower); o != nil || e != api.ErrState {
			t.Error("Give:", thread, tower, o, e)
		}
	}
}

// TestGiveState: P14.3, a tower can be given back once after each time that it was taken, from the step at which it is taken on.
func TestGiveState(t *testing.T) {
	p, _, _ := fresh(t, towers(0, 1))
	for round := range 5 {
		refused(t, p, 1)
		a := taking(t, p, round, 2, 0)
		stepped(t, a, false, api.PcPool, api.PcPoolNext)
		refused(t, p, 1)
		stepped(t, a, true, api.PcTake)
		outside(t, p, 1)
		g := giving(t, p, round+1, 1)
		for range 2 {
			refused(t, p, 1)
			outside(t, p, 1)
			was(t, p, 1, round)
			g.Step()
		}
		refused(t, p, 1)
		stepped(t, g, true, api.PcGive)
		was(t, p, 1, round+1)
		outside(t, p)
		stepped(t, g, false, api.PcIdle)
		was(t, p, 1, round+1)
	}
	refused(t, p, 1)
}

// TestLook: P14.4, heights and towers that do not exist, and the memory of results.
func TestLook(t *testing.T) {
	p, m, l := fresh(t, towers(4, 3, 2, 1))
	for n := -10; n <= 10; n++ {
		if _, e := p.List(n); (e == api.OK) != (1 <= n && n <= 6) || e != api.OK && e != api.ErrRange {
			t.Error("List:", n, e)
		}
		if _, e := p.Gen(n); (e == api.OK) != (1 <= n && n <= 10) || e != api.OK && e != api.ErrRange {
			t.Error("Gen:", n, e)
		}
	}
	for _, height := range flat {
		if l, e := p.List(height); len(l) != 0 || e != api.ErrRange {
			t.Error("List:", height, l, e)
		}
	}
	for _, tower := range strange(l.Towers()) {
		if n, e := p.Gen(tower); n != 0 || e != api.ErrRange {
			t.Error("Gen:", tower, n, e)
		}
	}
	for _, height := range []int{2, 1, 2} {
		stepped(t, taking(t, p, 1, height, 1), true, api.PcPool, api.PcPoolNext, api.PcTake)
	}
	list, _ := p.List(1)
	out := p.Out()
	clear(list)
	clear(out)
	lists(t, p, 1, 2, 3, 4)
	lists(t, p, 2, 7)
	outside(t, p, 1, 5, 6)
	if m.Len() != 9 {
		t.Error("accesses:", m.Len())
	}
}

// TestLog: P14.2 and P14.3, which accesses the steps make, of each height, by which thread.
func TestLog(t *testing.T) {
	p, m, l := fresh(t, towers(2, 3, 2, 4, 2, 5))
	first := 1
	for _, height := range heights {
		at := l.Places().Pools + height - 1
		link := l.Places().Links + first - 1
		one, two := uint64(first), uint64(first+1)
		from := m.Len()
		stepped(t, taking(t, p, 5*height, height, 2), true, api.PcPool, api.PcPoolNext, api.PcTake)
		stepped(t, giving(t, p, 5*height+1, first), true, api.PcPool, api.PcPoolLink, api.PcGive)
		want := []api.Access{
			{Thread: 5 * height, Addr: at, Kind: api.Load, Old: one, New: one},
			{Thread: 5 * height, Addr: link, Kind: api.Load, Old: two, New: two},
			{Thread: 5 * height, Addr: at, Kind: api.CompareAndSwap, Old: one, New: two + 1<<16, Swapped: true},
			{Thread: 5*height + 1, Addr: at, Kind: api.Load, Old: two + 1<<16, New: two + 1<<16},
			{Thread: 5*height + 1, Addr: link, Kind: api.Store, Old: two, New: two},
			{Thread: 5*height + 1, Addr: at, Kind: api.CompareAndSwap, Old: two + 1<<16, New: one + 2<<16, Swapped: true},
		}
		if log := m.Log(from); !slices.Equal(log, want) {
			t.Error("log:", height, log, "and not", want)
		}
		first += l.Config().Towers[height-1]
	}
}

// TestAgain: P14.2 and P14.6, an operation does not take a tower whose link changed while it was taken and given back.
func TestAgain(t *testing.T) {
	p, m, l := fresh(t, towers(3))
	slow := taking(t, p, 0, 1, 2)
	stepped(t, slow, false, api.PcPool, api.PcPoolNext)
	for range 2 {
		stepped(t, taking(t, p, 1, 1, 0), true, api.PcPool, api.PcPoolNext, api.PcTake)
	}
	stepped(t, giving(t, p, 1, 1), true, api.PcPool, api.PcPoolLink, api.PcGive)
	// The tower 1 is the top again, but the tower 2, which the slow one saw below it, is out.
	lists(t, p, 1, 1, 3)
	stepped(t, slow, false, api.PcTake)
	lists(t, p, 1, 1, 3)
	outside(t, p, 2)
	stepped(t, slow, true, api.PcPool, api.PcPoolNext, api.PcTake)
	ended(t, slow, 1, 1, api.OK)
	lists(t, p, 1, 3)
	outside(t, p, 1, 2)
	if w, _ := m.Peek(l.Places().Pools); w != 3+4<<16 {
		t.Error("head:", w)
	}
}

// TestTries: P14.2, an operation that is disturbed each time ends as soon as it has failed as often as it may, one with tries 0 never.
func TestTries(t *testing.T) {
	for _, tries := range allowed {
		p, m, _ := fresh(t, towers(2))
		o := taking(t, p, 7, 1, tries)
		for n := range 300 {
			last := n+1 == tries
			ended(t, o, 0, 0, api.ErrState)
			stepped(t, o, false, api.PcPool, api.PcPoolNext)
			ended(t, o, 0, 0, api.ErrState)
			other := taking(t, p, 8, 1, 1)
			stepped(t, other, true, api.PcPool, api.PcPoolNext, api.PcTake)
			tower, _, _ := other.Result()
			stepped(t, giving(t, p, 8, tower), true, api.PcPool, api.PcPoolLink, api.PcGive)
			stepped(t, o, last, api.PcTake)
			if last {
				break
			}
		}
		if tries == 0 {
			stepped(t, o, true, api.PcPool, api.PcPoolNext, api.PcTake)
			ended(t, o, 1, 300, api.OK)
			continue
		}
		length := m.Len()
		for range 3 {
			ended(t, o, 0, tries, api.ErrRetry)
			stepped(t, o, false, api.PcIdle)
		}
		outside(t, p)
		if m.Len() != length {
			t.Error("accesses after the end:", m.Len()-length)
		}
	}
}

// TestFullLater: P14.2, an operation that finds the pool empty after failures keeps their number.
func TestFullLater(t *testing.T) {
	p, _, _ := fresh(t, towers(0, 0, 2))
	slow := taking(t, p, 0, 3, 0)
	for range 2 {
		stepped(t, slow, false, api.PcPool, api.PcPoolNext)
		stepped(t, taking(t, p, 1, 3, 0), true, api.PcPool, api.PcPoolNext, api.PcTake)
		stepped(t, slow, false, api.PcTake)
	}
	stepped(t, slow, true, api.PcPool)
	ended(t, slow, 0, 2, api.ErrFull)
	stepped(t, giving(t, p, 1, 2), true, api.PcPool, api.PcPoolLink, api.PcGive)
	stepped(t, slow, false, api.PcIdle)
	ended(t, slow, 0, 2, api.ErrFull)
	lists(t, p, 3, 2)
}

// head is a head as the document speaks of it.
type head struct {
	tag   uint64
	tower int
}

// job is an operation as the document speaks of it.
type job struct {
	take                  bool
	thread, height, tries int
	tower                 int // which is given back
	phase                 int // how many steps of the three were made
	seen                  head
	link                  int
	since                 int // how often the pool had been changed at the last PcPool
	failures              int
	over                  bool
	got                   int
	e                     api.Errno
}

// world is pools as the document speaks of them, with the stacks of P14.6 beside the words.
type world struct {
	heads   map[int]head
	links   map[int]int
	high    map[int]int // the heights of the towers
	out     map[int]bool
	giving  map[int]bool
	gens    map[int]int
	stacks  map[int][]int // from the top on
	changes map[int]int   // how often each pool was changed
	log     []api.Access
	at      api.Layout
}

// newWorld returns the pools of a new store.
func newWorld(c api.Config, at api.Layout) *world {
	w := &world{heads: map[int]head{}, links: map[int]int{}, high: map[int]int{}, out: map[int]bool{}, giving: map[int]bool{}, gens: map[int]int{}, stacks: map[int][]int{}, changes: map[int]int{}, at: at}
	tower := 0
	for i, count := range c.Towers {
		for n := range count {
			tower++
			w.high[tower] = i + 1
			w.stacks[i+1] = append(w.stacks[i+1], tower)
			if n == 0 {
				w.heads[i+1] = head{tower: tower}
			} else {
				w.links[tower-1] = tower
			}
		}
	}
	return w
}

// note appends an access.
func (w *world) note(thread, addr int, kind uint8, old, to uint64, swapped bool) {
	w.log = append(w.log, api.Access{Thread: thread, Addr: addr, Kind: kind, Old: old, New: to, Swapped: swapped})
}

// word returns the word of a head.
func (h head) word() uint64 {
	return h.tag*65536 + uint64(h.tower)
}

// load performs the step PcPool.
func (w *world) load(j *job) {
	h := w.heads[j.height]
	j.seen, j.since = h, w.changes[j.height]
	w.note(j.thread, w.at.Pools+j.height-1, api.Load, h.word(), h.word(), false)
}

// swap performs a compare-and-swap, and reports whether it succeeds.
func (w *world) swap(j *job, tower int) bool {
	now, after := w.heads[j.height], head{tag: j.seen.tag + 1, tower: tower}
	addr := w.at.Pools + j.height - 1
	if now != j.seen {
		w.note(j.thread, addr, api.CompareAndSwap, now.word(), now.word(), false)
		return false
	}
	w.note(j.thread, addr, api.CompareAndSwap, now.word(), after.word(), true)
	w.heads[j.height] = after
	w.changes[j.height]++
	return true
}

// step performs a step as the document says.
func (w *world) step(t *testing.T, j *job) (pc uint8, done bool) {
	t.Helper()
	if j.over {
		return api.PcIdle, false
	}
	if j.take {
		pc = w.takeStep(t, j)
	} else {
		pc = w.giveStep(t, j)
	}
	return pc, j.over
}

// takeStep performs a step of an operation that takes a tower.
func (w *world) takeStep(t *testing.T, j *job) uint8 {
	t.Helper()
	switch j.phase {
	case 0:
		w.load(j)
		j.phase = 1
		if j.seen.tower == 0 {
			j.over, j.e = true, api.ErrFull
			if len(w.stacks[j.height]) != 0 {
				t.Fatal("ErrFull, but the stack is", w.stacks[j.height])
			}
		}
		return api.PcPool
	case 1:
		j.link, j.phase = w.links[j.seen.tower], 2
		w.note(j.thread, w.at.Links+j.seen.tower-1, api.Load, uint64(j.link), uint64(j.link), false)
		return api.PcPoolNext
	}
	if w.swap(j, j.link) {
		j.over, j.got = true, j.seen.tower
		if s := w.stacks[j.height]; len(s) == 0 || s[0] != j.got {
			t.Fatal("took", j.got, "but the stack is", s)
		}
		w.stacks[j.height] = w.stacks[j.height][1:]
		w.out[j.got] = true
		return api.PcTake
	}
	w.disturbed(t, j)
	j.failures++
	if j.failures >= j.tries && j.tries > 0 {
		j.over, j.e = true, api.ErrRetry
	}
	return api.PcTake
}

// giveStep performs a step of an operation that gives a tower back.
func (w *world) giveStep(t *testing.T, j *job) uint8 {
	t.Helper()
	switch j.phase {
	case 0:
		w.load(j)
		j.phase = 1
		return api.PcPool
	case 1:
		w.note(j.thread, w.at.Links+j.tower-1, api.Store, uint64(w.links[j.tower]), uint64(j.seen.tower), false)
		w.links[j.tower], j.phase = j.seen.tower, 2
		return api.PcPoolLink
	}
	if w.swap(j, j.tower) {
		j.over = true
		w.stacks[j.height] = slices.Concat([]int{j.tower}, w.stacks[j.height])
		delete(w.out, j.tower)
		delete(w.giving, j.tower)
		w.gens[j.tower]++
		return api.PcGive
	}
	w.disturbed(t, j)
	return api.PcGive
}

// disturbed looks whether the pool was changed since the last PcPool of an operation that fails (P14.7), and lets it begin anew.
func (w *world) disturbed(t *testing.T, j *job) {
	t.Helper()
	if w.changes[j.height] == j.since {
		t.Fatal("fails without a reason:", *j)
	}
	j.phase = 0
}

// scene is pools with operations on them, and the same as the document speaks of them.
type scene struct {
	p    *Pool
	m    *words.Mem
	l    *layout.Layout
	w    *world
	ops  []operation
	jobs []*job
}

// set returns a scene.
func set(t *testing.T, c api.Config) *scene {
	t.Helper()
	p, m, l := fresh(t, c)
	return &scene{p: p, m: m, l: l, w: newWorld(c, l.Places())}
}

// take begins an operation that takes a tower.
func (c *scene) take(t *testing.T, thread, height, tries int) int {
	t.Helper()
	c.ops = append(c.ops, taking(t, c.p, thread, height, tries))
	c.jobs = append(c.jobs, &job{take: true, thread: thread, height: height, tries: tries})
	return len(c.ops) - 1
}

// give begins an operation that gives a tower back, or looks at the error.
func (c *scene) give(t *testing.T, thread, tower int) (int, bool) {
	t.Helper()
	o, e := c.p.Give(thread, tower)
	if may := c.w.out[tower] && !c.w.giving[tower]; !may {
		if o != nil || e != api.ErrState {
			t.Fatal("Give:", tower, o, e)
		}
		return 0, false
	}
	if o == nil || e != api.OK {
		t.Fatal("Give:", tower, o, e)
	}
	c.w.giving[tower] = true
	c.ops = append(c.ops, o)
	c.jobs = append(c.jobs, &job{thread: thread, height: c.w.high[tower], tower: tower})
	return len(c.ops) - 1, true
}

// step performs a step of an operation on both sides.
func (c *scene) step(t *testing.T, i int) {
	t.Helper()
	next := c.ops[i].Next()
	pc, done := c.ops[i].Step()
	wantPc, wantDone := c.w.step(t, c.jobs[i])
	if next != wantPc || pc != wantPc || done != wantDone {
		t.Fatal("step:", i, next, pc, done, "and not", wantPc, wantDone, c.w.log)
	}
}

// look compares both sides.
func (c *scene) look(t *testing.T) {
	t.Helper()
	for i, j := range c.jobs {
		o, takes := c.ops[i].(*Take)
		if !takes {
			continue
		}
		n, f, e := o.Result()
		if want := *j; !want.over && (n != 0 || f != 0 || e != api.ErrState) || want.over && (n != want.got || f != want.failures || e != want.e) {
			t.Fatal("Result:", n, f, e, "and not", want)
		}
	}
	seen := map[int]bool{}
	for _, height := range heights {
		l, e := c.p.List(height)
		if e != api.OK || !slices.Equal(l, c.w.stacks[height]) {
			t.Fatal("List:", height, l, e, "and not", c.w.stacks[height])
		}
		// P14.5, said of the results alone.
		for _, tower := range l {
			if seen[tower] || c.w.high[tower] != height {
				t.Fatal("the tower", tower, "is twice in stacks, or in that of another height:", height)
			}
			seen[tower] = true
		}
		if w, _ := c.m.Peek(c.l.Places().Pools + height - 1); w != c.w.heads[height].word() {
			t.Fatal("head:", height, w, "and not", c.w.heads[height])
		}
	}
	out := c.p.Out()
	if !slices.IsSorted(out) {
		t.Fatal("Out:", out)
	}
	for _, tower := range out {
		if seen[tower] || !c.w.out[tower] {
			t.Fatal("the tower", tower, "is out, and free too, or not really out")
		}
		seen[tower] = true
	}
	if len(seen) != c.l.Towers() {
		t.Fatal("towers:", len(seen), "and not", c.l.Towers())
	}
	for tower := 1; tower <= c.l.Towers(); tower++ {
		was(t, c.p, tower, c.w.gens[tower])
	}
}

// logs compares the logs of both sides, and looks for accesses to other words.
func (c *scene) logs(t *testing.T) {
	t.Helper()
	if log := c.m.Log(0); !slices.Equal(log, c.w.log) {
		t.Fatal("log:", log, "and not", c.w.log)
	}
	for _, a := range c.w.log {
		if k := c.l.Of(a.Addr).Kind; k != api.AtPool && k != api.AtLink {
			t.Fatal("access:", a, k)
		}
	}
}

// habit is a thread that takes towers and gives them back in turn: it has an operation, or none before its first one.
type habit struct {
	thread, height, tries int
	op                    int
	some                  bool
	keeps                 int // how many towers it keeps before it gives the first one of them back
	has                   []int
}

// act performs the next step of a thread, which begins a new operation when the last one has ended.
func (h *habit) act(t *testing.T, c *scene) {
	t.Helper()
	if !h.some || c.jobs[h.op].over {
		if h.some && c.jobs[h.op].got != 0 {
			h.has = append(h.has, c.jobs[h.op].got)
		}
		if len(h.has) > h.keeps {
			h.op, _ = c.give(t, h.thread, h.has[0])
			h.has = h.has[1:]
		} else {
			h.op = c.take(t, h.thread, h.height, h.tries)
		}
		h.some = true
	}
	c.step(t, h.op)
}

// TestSchedules: P14.2 to P14.7, all sequences of the steps of two threads, and of three, that take towers of one pool and give them back.
func TestSchedules(t *testing.T) {
	for _, s := range []struct{ people, length, count int }{{2, 14, 1}, {2, 14, 2}, {3, 9, 1}, {3, 9, 2}, {3, 9, 3}, {4, 7, 3}} {
		total := 1
		for range s.length {
			total *= s.people
		}
		for n := range total {
			c := set(t, towers(s.count))
			var l []*habit
			for i := range s.people {
				l = append(l, &habit{thread: i, height: 1, tries: i, keeps: i % 2})
			}
			for range s.length {
				l[n%s.people].act(t, c)
				n /= s.people
			}
			c.look(t)
			c.logs(t)
		}
	}
}

// TestSteps: P14.4 and P14.5, at each step of all short sequences, after two threads have taken the towers of a pool.
func TestSteps(t *testing.T) {
	const length = 11
	for n := range 1 << length {
		c := set(t, towers(2, 1))
		for thread := range 2 {
			o := c.take(t, thread, 1, 0)
			for range 3 {
				c.step(t, o)
			}
		}
		l := []*habit{{thread: 0, height: 1, has: []int{1}}, {thread: 1, height: 1, has: []int{2}}}
		for i := range length {
			l[n>>i&1].act(t, c)
			c.look(t)
		}
		c.logs(t)
	}
}

// draws returns a function that returns numbers below a bound, which look random but are always the same.
func draws(seed uint64) func(bound int) int {
	return func(bound int) int {
		seed = seed*6364136223846793005 + 1442695040888963407
		return int(seed >> 33 % uint64(bound))
	}
}

// TestLong: P14.2 to P14.7, long sequences with many threads, towers of all heights, and operations that are left before their end.
func TestLong(t *testing.T) {
	for seed := range uint64(60) {
		draw := draws(seed)
		c := set(t, towers(draw(9), draw(6), draw(4), draw(3), draw(3), draw(3)))
		var free []int // operations that may be under way
		for n := range 900 {
			switch k := draw(12); {
			case k == 0:
				free = append(free, c.take(t, draw(64), 1+draw(6), draw(5)))
			case k == 1:
				free = append(free, c.take(t, draw(64), 1, draw(3)))
			case k <= 3 && c.l.Towers() > 0:
				if i, begun := c.give(t, draw(64), 1+draw(c.l.Towers())); begun {
					free = append(free, i)
				}
			case len(free) > 0:
				// One of the latest operations, so that some of the old ones wait in their middle for a long time.
				i := max(0, len(free)-1-draw(6))
				if draw(9) == 0 {
					i = draw(len(free))
				}
				c.step(t, free[i])
				if c.jobs[free[i]].over && draw(4) > 0 {
					free = slices.Delete(free, i, i+1)
				}
			}
			if n%20 == 0 {
				c.look(t)
			}
		}
		c.look(t)
		c.logs(t)
	}
}

// TestAlone: P14.7, operations that nobody disturbs end after three steps, whatever the state of the pools is, or after one if the pool is empty.
func TestAlone(t *testing.T) {
	p, m, l := fresh(t, towers(40, 0, 3))
	draw := draws(5)
	for range 3000 {
		height, before := 1+draw(3), m.Len()
		list, _ := p.List(height)
		o := taking(t, p, draw(64), height, 1)
		if len(list) == 0 {
			stepped(t, o, true, api.PcPool)
			ended(t, o, 0, 0, api.ErrFull)
		} else {
			stepped(t, o, true, api.PcPool, api.PcPoolNext, api.PcTake)
			ended(t, o, list[0], 0, api.OK)
			lists(t, p, height, list[1:]...)
		}
		if want := before + min(3, 1+2*len(list)); m.Len() != want {
			t.Fatal("accesses:", m.Len(), "and not", want)
		}
		if out := p.Out(); len(out) > draw(44) {
			tower := out[draw(len(out))]
			height, _ := l.Height(tower)
			list, _ := p.List(height)
			gen, _ := p.Gen(tower)
			stepped(t, giving(t, p, draw(64), tower), true, api.PcPool, api.PcPoolLink, api.PcGive)
			lists(t, p, height, slices.Concat([]int{tower}, list)...)
			was(t, p, tower, gen+1)
		}
	}
}

// TestLargest: P14.2 to P14.5, a pool with as many towers as there may be is emptied and filled again.
func TestLargest(t *testing.T) {
	for _, height := range heights {
		counts := make([]int, height)
		counts[height-1] = api.MaxTowers
		p, _, _ := fresh(t, towers(counts...))
		for n := range api.MaxTowers {
			o := taking(t, p, 0, height, 1)
			stepped(t, o, true, api.PcPool, api.PcPoolNext, api.PcTake)
			ended(t, o, n+1, 0, api.OK)
		}
		stepped(t, taking(t, p, 0, height, 1), true, api.PcPool)
		lists(t, p, height)
		if out := p.Out(); len(out) != api.MaxTowers || out[0] != 1 || out[len(out)-1] != api.MaxTowers {
			t.Error("Out:", out)
		}
		var want []int
		for tower := 1; tower <= api.MaxTowers; tower++ {
			stepped(t, giving(t, p, 63, tower), true, api.PcPool, api.PcPoolLink, api.PcGive)
			want = append(want, tower)
		}
		slices.Reverse(want)
		lists(t, p, height, want...)
		outside(t, p)
	}
}

// TestOtherWords: R1, pools whose words are something else end their steps and lists nevertheless.
func TestOtherWords(t *testing.T) {
	for seed := range uint64(300) {
		draw := draws(seed)
		l := place(t, towers(3, 2, 1, 1, 1, 1))
		store := l.Initial()
		at := l.Places()
		for i := at.Pools; i < at.Heads; i++ {
			store[i] = []uint64{1, 2, 3, 9, 10, 1000, 1<<16 - 1, 5 + 1<<16, 2 + api.MaxTag<<16, math.MaxUint64, 1 << 63, 0}[draw(12)]
		}
		p, e := New(memory(t, store...), l)
		if e != api.OK {
			t.Fatal("New:", e)
		}
		var ops []operation
		for range 400 {
			switch k := draw(8); {
			case k == 0:
				ops = append(ops, taking(t, p, draw(64), 1+draw(6), draw(3)))
			case k == 1:
				if o, e := p.Give(draw(64), 1+draw(9)); e == api.OK {
					ops = append(ops, o)
				}
			case len(ops) > 0:
				ops[max(0, len(ops)-1-draw(4))].Step()
			}
			if list, e := p.List(1 + draw(6)); e != api.OK || len(list) > l.Towers() {
				t.Fatal("List:", list, e)
			}
			p.Out()
		}
	}
}
