package tower

import (
	"math"
	"slices"
	"testing"

	"leapfrog/api"
	"leapfrog/field"
	"leapfrog/layout"
	"leapfrog/words"
)

// threads and nobody are numbers that are threads, and that are none.
var (
	threads = []int{0, 1, 2, 31, 62, 63}
	nobody  = []int{-1, 64, 65, -64, 1 << 32, 1<<32 + 1, math.MaxInt, math.MinInt}
)

// numbers are keys, values and words at both ends of their type and in the middle, in ascending order.
var numbers = []uint64{0, 1, 2, 3, 255, 1<<16 - 1, 1 << 16, 1 << 32, 1<<63 - 1, 1 << 63, 1<<63 + 1, 1<<64 - 2, 1<<64 - 1}

// gens are generations at both ends.
var gens = []uint64{0, 1, 2, 1<<40 - 2, 1<<40 - 1}

// valid are state words, and invalid words that are none.
var (
	valid = []uint64{0, 1, 2, 3, 4, 5, 11, 12, 13, 123, 124, 125, 131083, 1<<55 + 3, (1<<40-1)<<16 + 3, (1<<40-1)<<16 + 4, (1<<40-1)<<16 + 5, (1<<40-1)<<16 + 15<<3 + 5}
	// The kinds 6 and 7; plain ones with an entry or a generation; conditional ones whose entry is too great.
	invalid = []uint64{6, 7, 8, 9, 10, 14, 15, 120, 121, 122, 126, 127, 128, 131, 132, 133, 1 << 15, 1<<16 - 1, 1 << 16, 1<<16 + 1, 1<<16 + 2, 1<<16 + 6, 1<<56 + 1, 1<<56 + 3, 1<<56 + 7, 1 << 63, 1<<63 + 2, 1<<63 + 6, 1<<64 - 1}
)

// strange returns numbers that are no tower of n towers.
func strange(n int) []int {
	return []int{0, -1, -2, -n, -n - 1, n + 1, n + 2, 2*n + 1, 1 << 16, 1<<16 + 1, 1 << 32, 1<<32 + 1, math.MaxInt, math.MinInt, math.MinInt + 1}
}

// example is the configuration of the examples of chapter 9.
var example = api.Config{Threads: 1, Slots: 2, Engine: api.EngEach, Domain: api.Domain{Kind: api.MapMod, N: 2}, Towers: [api.MaxHeight]int{2, 1}, Locks: 1, Tries: 1}

// shop returns a configuration with a number of domain values, a number of entries, and these numbers of towers; its engine depends on them.
func shop(values, locks int, counts ...int) api.Config {
	c := api.Config{Threads: 3, Slots: 1 + len(counts), Engine: api.EngFull, Domain: api.Domain{Kind: api.MapOne}, Locks: locks, Tries: 5}
	if values > 1 {
		c.Domain = api.Domain{Kind: api.MapMod, N: values}
	}
	copy(c.Towers[:], counts)
	switch c.Towers[0] % 3 {
	case 1:
		c.Engine, c.Buckets = api.EngGate, 3
	case 2:
		c.Engine = api.EngEach
	}
	return c
}

// configs are configurations without towers, with towers of one height and of several, and with few and many lists and entries.
func configs() []api.Config {
	return []api.Config{
		example, shop(1, 1), shop(3, 16, 1), shop(2, 2, 0, 0, 0, 0, 0, 1), shop(5, 3, 3, 1, 4, 1, 5, 2), shop(1, 4, 2, 2, 2), shop(64, 1, 4, 4),
		{Threads: 1, Slots: 1, Engine: api.EngFull, Domain: api.Domain{Kind: api.MapCut, Cuts: []uint64{5, 7, 1 << 63}}, Towers: [api.MaxHeight]int{1, 1, 1, 1, 1, 1}, Locks: 5, Tries: 1},
	}
}

// plain is the words of a store as the document speaks of them: with the places of chapter 9, and what they say by chapters 1 and 15.
type plain struct {
	c      api.Config
	values int
	count  int // of towers
	descs  int // the address of the first descriptor
	heads  int // the address of the first head
	towers int // the address of the first tower
	size   int
	w      []uint64
}

// newPlain returns the places of a configuration.
func newPlain(c api.Config) *plain {
	p := &plain{c: c, values: 1}
	if c.Domain.Kind != api.MapOne {
		p.values = c.Domain.N + len(c.Domain.Cuts)
	}
	if c.Domain.Kind == api.MapCut {
		p.values++
	}
	engine := map[uint8]int{api.EngFull: c.Slots, api.EngEach: 2 * c.Slots, api.EngGate: 4 * c.Buckets}[c.Engine]
	for _, n := range c.Towers {
		p.count += n
	}
	p.descs = c.Slots + engine + 1 + 3*c.Locks
	p.heads = p.descs + c.Locks + 6 + p.count
	p.towers = p.heads + 7*p.values
	p.size = p.towers
	for tower := 1; tower <= p.count; tower++ {
		p.size += 5 + p.height(tower)
	}
	p.w = make([]uint64, p.size)
	return p
}

// height returns the height of a tower, 0 if there is none.
func (p *plain) height(tower int) int {
	last := 0
	for i, n := range p.c.Towers {
		last += n
		if 1 <= tower && tower <= last {
			return i + 1
		}
	}
	return 0
}

// tower returns the address of the first word of a tower.
func (p *plain) tower(tower int) int {
	at := p.towers
	for before := 1; before < tower; before++ {
		at += 5 + p.height(before)
	}
	return at
}

// next returns the address of a next word of a node, or false if there is none.
func (p *plain) next(r api.Ref, level int) (int, bool) {
	if r < 0 && r >= api.Ref(-p.values) && level >= 0 && level < 6 {
		return p.heads + 7*int(-1-r) + 1 + level, true
	}
	if r > 0 && level >= 0 && level < p.height(int(r)) {
		return p.tower(int(r)) + 5 + level, true
	}
	return 0, false
}

// list returns the towers of a list.
func (p *plain) list(value, level int) []int {
	var towers []int
	at, _ := p.next(api.Ref(-1-value), level)
	for {
		n := p.w[at]
		if n > uint64(p.count) || p.height(int(n)) <= level || slices.Contains(towers, int(n)) {
			return towers
		}
		towers = append(towers, int(n))
		at, _ = p.next(api.Ref(n), level)
	}
}

// says returns what the state of a tower says: whether it is in the map, and with which value.
func (p *plain) says(tower int) (uint64, bool) {
	w := p.w[p.tower(tower):]
	value, alt, state := w[1], w[2], w[4]
	kind, entry, gen := state%8, state/8%8192, state/65536
	if state == 1 {
		return value, true
	}
	if kind < 3 || kind > 5 || entry >= uint64(p.c.Locks) || gen >= 1<<40 {
		return 0, false
	}
	desc := p.w[p.descs+int(entry)]
	if desc >= 1<<41 {
		return 0, false
	}
	after := desc/2 != gen || desc%2 == 1
	switch {
	case kind == 3:
		return value, after
	case kind == 4:
		return value, !after
	case after:
		return alt, true
	}
	return value, true
}

// pairs returns the pairs of the map.
func (p *plain) pairs() []api.Pair {
	had := map[uint64]bool{}
	var pairs []api.Pair
	for value := range p.values {
		for _, tower := range p.list(value, 0) {
			key := p.w[p.tower(tower)]
			v, in := p.says(tower)
			if !in || had[key] {
				continue
			}
			had[key] = true
			// It is put in front of the first greater key.
			i := 0
			for i < len(pairs) && pairs[i].Key < key {
				i++
			}
			pairs = slices.Insert(pairs, i, api.Pair{Key: key, Value: v})
		}
	}
	return pairs
}

// put sets the words of a tower from key to state.
func (p *plain) put(tower int, words ...uint64) {
	copy(p.w[p.tower(tower):], words)
}

// link sets a next word.
func (p *plain) link(t *testing.T, r api.Ref, level int, v uint64) {
	t.Helper()
	at, some := p.next(r, level)
	if !some {
		t.Fatal("no next word:", r, level)
	}
	p.w[at] = v
}

// chain links towers to the list of a domain value at a level.
func (p *plain) chain(t *testing.T, value, level int, towers ...int) {
	t.Helper()
	r := api.Ref(-1 - value)
	for _, tower := range append(slices.Clone(towers), 0) {
		p.link(t, r, level, uint64(tower))
		r = api.Ref(tower)
	}
}

// place returns a layout.
func place(t *testing.T, c api.Config) *layout.Layout {
	t.Helper()
	l, e := layout.New(c)
	if l == nil || e != api.OK {
		t.Fatal("layout.New:", c, l, e)
	}
	return l
}

// memory returns a memory with these words.
func memory(t *testing.T, w ...uint64) *words.Mem {
	t.Helper()
	m, e := words.New(w...)
	if m == nil || e != api.OK {
		t.Fatal("words.New:", len(w), m, e)
	}
	return m
}

// show returns the towers of a memory with the words of p.
func (p *plain) show(t *testing.T) (*Towers, *words.Mem) {
	t.Helper()
	m := memory(t, p.w...)
	s, e := New(m, place(t, p.c))
	if s == nil || e != api.OK {
		t.Fatal("New:", p.c, s, e)
	}
	return s, m
}

// fresh returns the towers of a new store, with its memory and its words.
func fresh(t *testing.T, c api.Config) (*Towers, *words.Mem, *plain) {
	t.Helper()
	p := newPlain(c)
	p.w = place(t, c).Initial()
	s, m := p.show(t)
	return s, m, p
}

// writing returns an operation that has begun to write a tower.
func writing(t *testing.T, s *Towers, thread, tower int, p api.Pair, state uint64) *Write {
	t.Helper()
	w, e := s.Write(thread, tower, p, state)
	if w == nil || e != api.OK {
		t.Fatal("Write:", thread, tower, p, state, w, e)
	}
	return w
}

// stepped makes steps, of which the last one ends the operation if done is true, and looks at what they return.
func stepped(t *testing.T, w *Write, done bool, pcs ...uint8) {
	t.Helper()
	for i, pc := range pcs {
		if n := w.Next(); n != pc {
			t.Error("Next:", i, n, "and not", pc)
		}
		want := done && i == len(pcs)-1
		if p, d := w.Step(); p != pc || d != want {
			t.Error("Step:", i, p, d, "and not", pc, want)
		}
	}
}

// lists looks at a list.
func lists(t *testing.T, s *Towers, value, level int, want ...int) {
	t.Helper()
	if l, e := s.List(value, level); !slices.Equal(l, want) || e != api.OK {
		t.Error("List:", value, level, l, e, "and not", want)
	}
}

// after looks at the node after a node.
func after(t *testing.T, s *Towers, r api.Ref, level int, want api.Ref, w api.Errno) {
	t.Helper()
	if n, e := s.After(r, level); n != want || e != w {
		t.Error("After:", r, level, n, e, "and not", want, w)
	}
}

// mapped looks at the pairs of the map.
func mapped(t *testing.T, s *Towers, want ...api.Pair) {
	t.Helper()
	if l, e := s.Pairs(); !slices.Equal(l, want) || e != api.OK {
		t.Error("Pairs:", l, e, "and not", want)
	}
}

// shows looks at the words of a tower.
func shows(t *testing.T, s *Towers, tower int, want api.Tower) {
	t.Helper()
	w, e := s.Tower(tower)
	same := w.Key == want.Key && w.Value == want.Value && w.Alt == want.Alt && w.Latch == want.Latch && w.State == want.State && slices.Equal(w.Next, want.Next)
	if !same || e != api.OK {
		t.Error("Tower:", tower, w, e, "and not", want)
	}
}

// looks compares everything that is shown with the words of p, which must not be accessed.
func (p *plain) looks(t *testing.T, s *Towers, m *words.Mem) {
	t.Helper()
	length := m.Len()
	for tower := 1; tower <= p.count; tower++ {
		w := p.w[p.tower(tower):]
		shows(t, s, tower, api.Tower{Key: w[0], Value: w[1], Alt: w[2], Latch: w[3], State: w[4], Next: w[5 : 5+p.height(tower)]})
	}
	for level := range 6 {
		for r := api.Ref(-p.values); r <= api.Ref(p.count); r++ {
			at, some := p.next(r, level)
			switch {
			case !some:
				after(t, s, r, level, 0, api.ErrRange)
			case p.w[at] > uint64(p.count):
				after(t, s, r, level, 0, api.OK)
			default:
				after(t, s, r, level, api.Ref(p.w[at]), api.OK)
			}
		}
		for value := range p.values {
			lists(t, s, value, level, p.list(value, level)...)
		}
	}
	mapped(t, s, p.pairs()...)
	if m.Len() != length {
		t.Error("accesses:", m.Len()-length)
	}
}

// draws returns pseudo-random numbers from 0 to n - 1.
func draws(seed uint64) func(n int) int {
	return func(n int) int {
		seed = seed*6364136223846793005 + 1442695040888963407
		return int(seed >> 33 % uint64(n))
	}
}

// TestExamples: the chapter's examples.
func TestExamples(t *testing.T) {
	_, _, p := fresh(t, example)
	p.put(1, 4, 40, 0, 0, 1)
	p.put(3, 6, 60, 61, 0, 5)
	p.chain(t, 0, 0, 1, 3)
	p.chain(t, 0, 1, 3)
	s, m := p.show(t)
	lists(t, s, 0, 0, 1, 3)
	lists(t, s, 0, 1, 3)
	lists(t, s, 1, 0)
	if l, e := s.List(2, 0); len(l) != 0 || e != api.ErrRange {
		t.Error("List:", l, e)
	}
	after(t, s, -1, 0, 1, api.OK)
	after(t, s, 1, 0, 3, api.OK)
	after(t, s, 1, 1, 0, api.ErrRange)
	after(t, s, 3, 1, 0, api.OK)
	four := api.Pair{Key: 4, Value: 40}
	mapped(t, s, four, api.Pair{Key: 6, Value: 60})
	m.Store(0, 10, 1)
	mapped(t, s, four, api.Pair{Key: 6, Value: 61})
	m.Store(0, 10, 2)
	mapped(t, s, four, api.Pair{Key: 6, Value: 61})
	w := writing(t, s, 0, 2, api.Pair{Key: 5, Value: 50}, 1)
	stepped(t, w, true, api.PcNewKey, api.PcNewValue, api.PcNewState)
	shows(t, s, 2, api.Tower{Key: 5, Value: 50, State: 1, Next: []uint64{0}})
}

// TestNew: P15.1, memories of all sizes about that of the layout.
func TestNew(t *testing.T) {
	for _, c := range append(configs(), shop(64, 16, api.MaxTowers), shop(64, 16, 0, 0, 0, 0, 0, api.MaxTowers)) {
		l := place(t, c)
		n := newPlain(c).size
		for _, size := range []int{n, n - 1, n + 1, 1, 2, n / 2, 2 * n, api.MaxWords} {
			m := memory(t, make([]uint64, size)...)
			s, e := New(m, l)
			want := api.OK
			if size != n {
				want = api.ErrArg
			}
			if e != want || (s != nil) != (want == api.OK) || m.Len() != 0 {
				t.Error("New:", c.Towers, size, s, e, "and not", want, m.Len())
			}
		}
	}
}

// TestNil: P15.1 to P15.6 for nil objects, whatever else is wrong.
func TestNil(t *testing.T) {
	l := place(t, example)
	m := memory(t, 0)
	for _, f := range []func() (*Towers, api.Errno){
		func() (*Towers, api.Errno) { return New(nil, nil) },
		func() (*Towers, api.Errno) { return New(nil, l) },
		func() (*Towers, api.Errno) { return New(m, nil) },
	} {
		if s, e := f(); s != nil || e != api.ErrNil {
			t.Error("New:", s, e)
		}
	}
	var s *Towers
	for _, n := range []int{-1, 0, 1, 7, 64, 256} {
		if w, e := s.Write(n, n, api.Pair{}, uint64(n)); w != nil || e != api.ErrNil {
			t.Error("Write:", n, w, e)
		}
		if w, e := s.Tower(n); w.Next != nil || w.Key != 0 || e != api.ErrNil {
			t.Error("Tower:", n, w, e)
		}
		after(t, s, api.Ref(n), n, 0, api.ErrNil)
		if l, e := s.List(n, n); len(l) != 0 || e != api.ErrNil {
			t.Error("List:", n, l, e)
		}
	}
	if l, e := s.Pairs(); len(l) != 0 || e != api.ErrNil {
		t.Error("Pairs:", l, e)
	}
	var w *Write
	stepped(t, w, false, api.PcIdle, api.PcIdle)
}

// TestWriteErrors: P15.2, threads, towers and states about the allowed ones, and the order of the errors.
func TestWriteErrors(t *testing.T) {
	s, m, p := fresh(t, shop(2, 1, 2, 0, 1))
	check := func(thread, tower int, state uint64, bad bool) {
		want := api.OK
		switch {
		case thread < 0 || thread > api.MaxThreads-1:
			want = api.ErrArg
		case tower < 1 || tower > p.count:
			want = api.ErrRange
		case bad:
			want = api.ErrArg
		}
		if w, e := s.Write(thread, tower, api.Pair{Key: 1, Value: 2}, state); e != want || (w != nil) != (want == api.OK) {
			t.Error("Write:", thread, tower, state, w, e, "and not", want)
		}
	}
	for _, thread := range slices.Concat(threads, nobody) {
		for _, tower := range append(strange(p.count), 1, 2, 3) {
			for _, state := range valid {
				check(thread, tower, state, false)
			}
			for _, state := range invalid {
				check(thread, tower, state, true)
			}
		}
	}
	for n := -300; n <= 300; n++ {
		check(n, 1, 1, false)
		check(0, n, 1, false)
	}
	for state := range uint64(1 << 18) {
		check(0, 1, state, field.Check(state) != api.OK)
	}
	if m.Len() != 0 {
		t.Error("Write makes accesses:", m.Len())
	}
	p.looks(t, s, m)
}

// TestWrite: P15.2 and P15.7, the steps of a writing, their accesses, and the words that they leave, for all towers.
func TestWrite(t *testing.T) {
	draw := draws(1)
	for _, c := range configs() {
		p := newPlain(c)
		for at := range p.w {
			p.w[at] = uint64(1000 + at)
		}
		s, m := p.show(t)
		for tower := 1; tower <= p.count; tower++ {
			for _, state := range valid {
				thread := threads[draw(len(threads))]
				pair := api.Pair{Key: numbers[draw(len(numbers))], Value: numbers[draw(len(numbers))]}
				from, at := m.Len(), p.tower(tower)
				old := slices.Clone(p.w[at : at+5])
				w := writing(t, s, thread, tower, pair, state)
				for i, pc := range []uint8{api.PcNewKey, api.PcNewValue, api.PcNewState} {
					stepped(t, w, i == 2, pc)
					word := []int{0, 1, 4}[i]
					p.w[at+word] = []uint64{pair.Key, pair.Value, state}[i]
					if !slices.Equal(m.Words(), p.w) {
						t.Error("words after the step", i, tower)
					}
				}
				for range 3 {
					stepped(t, w, false, api.PcIdle)
				}
				want := []api.Access{
					{Thread: thread, Addr: at, Kind: api.Store, Old: old[0], New: pair.Key},
					{Thread: thread, Addr: at + 1, Kind: api.Store, Old: old[1], New: pair.Value},
					{Thread: thread, Addr: at + 4, Kind: api.Store, Old: old[4], New: state},
				}
				if log := m.Log(from); !slices.Equal(log, want) {
					t.Error("log:", tower, log, "and not", want)
				}
			}
		}
	}
}

// TestWritesMixed: P15.2, many writings under way at once, also of one thread and of one tower, each of which goes on for itself.
func TestWritesMixed(t *testing.T) {
	type job struct {
		w      *Write
		thread int
		at     int
		v      [3]uint64
		made   int
	}
	draw := draws(2)
	s, m, p := fresh(t, shop(2, 2, 3, 2, 1))
	pcs := []uint8{api.PcNewKey, api.PcNewValue, api.PcNewState, api.PcIdle}
	var jobs []*job
	var want []api.Access
	for range 20000 {
		if draw(4) == 0 {
			j := &job{thread: draw(3), v: [3]uint64{uint64(draw(9)), uint64(draw(9)), valid[draw(len(valid))]}}
			tower := 1 + draw(p.count)
			j.at = p.tower(tower)
			j.w = writing(t, s, j.thread, tower, api.Pair{Key: j.v[0], Value: j.v[1]}, j.v[2])
			jobs = append(jobs, j)
		}
		if len(jobs) == 0 {
			continue
		}
		j := jobs[max(0, len(jobs)-1-draw(8))]
		stepped(t, j.w, j.made == 2, pcs[j.made])
		if j.made < 3 {
			addr := j.at + []int{0, 1, 4}[j.made]
			want = append(want, api.Access{Thread: j.thread, Addr: addr, Kind: api.Store, Old: p.w[addr], New: j.v[j.made]})
			p.w[addr] = j.v[j.made]
			j.made++
		}
	}
	if !slices.Equal(m.Words(), p.w) || !slices.Equal(m.Log(0), want) {
		t.Error("words or log of writings that are mixed")
	}
	p.looks(t, s, m)
}

// TestTower: P15.3, the words of all towers, towers that do not exist, and the memory of results.
func TestTower(t *testing.T) {
	for _, c := range configs() {
		p := newPlain(c)
		for at := range p.w {
			p.w[at] = uint64(1000 + at)
		}
		s, m := p.show(t)
		p.looks(t, s, m)
		for _, tower := range strange(p.count) {
			if w, e := s.Tower(tower); w.Key != 0 || w.Value != 0 || w.Alt != 0 || w.Latch != 0 || w.State != 0 || len(w.Next) != 0 || e != api.ErrRange {
				t.Error("Tower:", tower, w, e)
			}
		}
		for tower := 1; tower <= p.count; tower++ {
			w, _ := s.Tower(tower)
			clear(w.Next)
		}
		p.looks(t, s, m)
		for tower := 1; tower <= p.count; tower++ {
			for word := range 5 + p.height(tower) {
				at := p.tower(tower) + word
				for _, n := range numbers {
					m.Store(1, at, n)
					p.w[at] = n
					p.looks(t, s, m)
				}
			}
			if tower > 3 {
				break
			}
		}
	}
}

// TestAfter: P15.4, all nodes and levels and numbers about them, and next words that name no tower.
func TestAfter(t *testing.T) {
	for _, c := range configs() {
		s, m, p := fresh(t, c)
		refs := []api.Ref{math.MinInt, math.MinInt + 1, -65, -1000, api.Ref(p.count + 1), 1 << 16, 1<<32 + 1, math.MaxInt}
		for r := api.Ref(-p.values - 2); r <= api.Ref(p.count+2); r++ {
			refs = append(refs, r)
		}
		for _, r := range refs {
			for _, level := range []int{-1, 0, 1, 2, 3, 4, 5, 6, 7, -6, 1 << 32, math.MaxInt, math.MinInt} {
				at, some := p.next(r, level)
				if !some {
					after(t, s, r, level, 0, api.ErrRange)
					continue
				}
				names := append(slices.Clone(numbers), uint64(p.count-1), uint64(p.count), uint64(p.count+1), 1<<32+1, -uint64(p.values), -uint64(p.values)-1)
				for _, n := range names {
					m.Store(0, at, n)
					if n > uint64(p.count) {
						n = 0
					}
					after(t, s, r, level, api.Ref(n), api.OK)
				}
			}
		}
	}
}

// TestListErrors: P15.5, domain values and levels about those that exist.
func TestListErrors(t *testing.T) {
	for _, c := range configs() {
		s, m, p := fresh(t, c)
		values := []int{math.MinInt, math.MinInt + 1, -1000, 64, 65, 1 << 32, math.MaxInt - 1, math.MaxInt}
		for value := -p.count - 3; value <= p.values+3; value++ {
			values = append(values, value)
		}
		for _, value := range values {
			for _, level := range []int{-1, 0, 1, 2, 3, 4, 5, 6, 7, -6, 1 << 32, math.MaxInt, math.MinInt} {
				want := api.OK
				if value < 0 || value >= p.values || level < 0 || level >= 6 {
					want = api.ErrRange
				}
				if l, e := s.List(value, level); len(l) != 0 || e != want {
					t.Error("List:", value, level, l, e, "and not", want)
				}
			}
		}
		if m.Len() != 0 {
			t.Error("accesses:", m.Len())
		}
	}
}

// TestListAll: P15.5, all next words of two lists with towers of the heights 1, 2 and 2, at two levels: towers, 0, none, too low ones, and lists that come back.
func TestListAll(t *testing.T) {
	p := newPlain(shop(2, 1, 1, 2))
	s, m := p.show(t)
	var places []int
	for _, node := range []struct {
		r     api.Ref
		level int
	}{{-1, 0}, {-2, 0}, {1, 0}, {2, 0}, {3, 0}, {-1, 1}, {2, 1}, {3, 1}} {
		at, some := p.next(node.r, node.level)
		if !some {
			t.Fatal("no next word:", node)
		}
		places = append(places, at)
	}
	names := []uint64{0, 1, 2, 3}
	var all func(i int)
	all = func(i int) {
		if i == len(places) {
			for value := range 2 {
				for level := range 2 {
					lists(t, s, value, level, p.list(value, level)...)
				}
			}
			return
		}
		for _, n := range names {
			m.Store(0, places[i], n)
			p.w[places[i]] = n
			all(i + 1)
		}
	}
	all(0)
	places, names = places[:5], append(names, 4, 5, 1<<32+1, 1<<63+2, 1<<64-2, 1<<64-1)
	all(0)
}

// TestResults: R3, changing the lists and pairs that were returned changes nothing.
func TestResults(t *testing.T) {
	p := newPlain(shop(1, 1, 4))
	for tower := 1; tower <= 4; tower++ {
		p.put(tower, uint64(tower), uint64(10*tower), 0, 0, 1)
	}
	p.chain(t, 0, 0, 1, 2, 3, 4)
	s, m := p.show(t)
	list, _ := s.List(0, 0)
	pairs, _ := s.Pairs()
	clear(list)
	clear(pairs)
	p.looks(t, s, m)
	lists(t, s, 0, 0, 1, 2, 3, 4)
}

// TestStates: P15.6, every kind, entry and generation of a state with every descriptor, and words that are neither.
func TestStates(t *testing.T) {
	var states []uint64
	for kind := range uint64(8) {
		for _, entry := range []uint64{0, 1, 2, 3, 14, 15, 16, 17, 8191} {
			for _, gen := range append(slices.Clone(gens), 1<<40, 1<<47, 1<<48-1) {
				states = append(states, kind+entry<<3+gen<<16)
			}
		}
	}
	descs := []uint64{0, 1, 2, 3, 4, 5, 1<<41 - 4, 1<<41 - 3, 1<<41 - 2, 1<<41 - 1, 1 << 41, 1<<41 + 1, 1<<41 + 3, 1 << 63, 1<<64 - 1}
	for _, locks := range []int{1, 2, 3, 15, 16} {
		p := newPlain(shop(1, locks, 1))
		p.chain(t, 0, 0, 1)
		s, m := p.show(t)
		for _, state := range states {
			p.put(1, 7, 70, 71, 9, state)
			m.Store(0, p.tower(1), 7)
			m.Store(0, p.tower(1)+1, 70)
			m.Store(0, p.tower(1)+2, 71)
			m.Store(0, p.tower(1)+4, state)
			for entry := range locks {
				at := p.descs + entry
				for _, desc := range descs {
					m.Store(0, at, desc)
					p.w[at] = desc
					mapped(t, s, p.pairs()...)
				}
				m.Store(0, at, 0)
				p.w[at] = 0
			}
		}
	}
}

// TestPlainStates: P15.6, what is in the place of a descriptor does not matter for a plain state.
func TestPlainStates(t *testing.T) {
	p := newPlain(shop(1, 1, 3))
	p.put(1, 1, 10, 11, 0, 0)
	p.put(2, 2, 20, 21, 0, 1)
	p.put(3, 3, 30, 31, 0, 2)
	p.chain(t, 0, 0, 1, 2, 3)
	s, m := p.show(t)
	for _, desc := range append(slices.Clone(numbers), 1<<41-1, 1<<41, 1<<41+1) {
		m.Store(0, p.descs, desc)
		mapped(t, s, api.Pair{Key: 2, Value: 20})
	}
}

// TestSameKey: P15.6, of several towers with one key the first one counts that is in the map, in the order of values and lists.
func TestSameKey(t *testing.T) {
	p := newPlain(shop(3, 1, 6))
	p.chain(t, 0, 0, 5, 2)
	p.chain(t, 1, 0, 6, 1)
	p.chain(t, 2, 0, 4, 3)
	order := []int{5, 2, 6, 1, 4, 3}
	s, m := p.show(t)
	// Each tower is in the map or not, and has the key 8 or the key 9; the value says which one counts.
	for set := range 1 << 12 {
		var want []api.Pair
		for _, key := range []uint64{8, 9} {
			for i, tower := range order {
				if set>>i&1 == 1 && uint64(8+set>>(6+i)&1) == key {
					want = append(want, api.Pair{Key: key, Value: uint64(tower)})
					break
				}
			}
		}
		for i, tower := range order {
			p.put(tower, uint64(8+set>>(6+i)&1), uint64(tower), 0, 0, uint64(set>>i&1))
			for word, v := range p.w[p.tower(tower) : p.tower(tower)+5] {
				m.Store(0, p.tower(tower)+word, v)
			}
		}
		mapped(t, s, want...)
	}
}

// TestSameKeyMany: P15.6, hundreds of towers with few keys in several lists, of which the first one of each key counts.
func TestSameKeyMany(t *testing.T) {
	draw := draws(5)
	p := newPlain(shop(4, 1, 300, 100))
	for range 20 {
		towers := make([]int, p.count)
		for i := range towers {
			k := draw(i + 1)
			towers[i], towers[k] = towers[k], i+1
			p.put(i+1, uint64(draw(7)), uint64(i), 0, 0, uint64(draw(2)))
		}
		for value := range 4 {
			p.chain(t, value, 0, towers[100*value:100*value+100]...)
		}
		s, m := p.show(t)
		p.looks(t, s, m)
	}
}

// TestSorted: P15.6, keys at both ends, in any order of the lists.
func TestSorted(t *testing.T) {
	draw := draws(3)
	p := newPlain(shop(4, 1, len(numbers)))
	for range 300 {
		order := make([]int, len(numbers))
		for i := range order {
			order[i] = i + 1
		}
		for i := range order {
			k := draw(i + 1)
			order[i], order[k] = order[k], order[i]
		}
		var want []api.Pair
		for i, key := range numbers {
			p.put(i+1, key, uint64(i), 0, 0, 1)
			want = append(want, api.Pair{Key: key, Value: uint64(i)})
		}
		for value := range 4 {
			p.chain(t, value, 0, order[3*value:min(3*value+3+value/3*10, len(order))]...)
		}
		s, _ := p.show(t)
		mapped(t, s, want...)
	}
}

// TestOnlyLevelZero: P15.6, a tower that is linked at higher levels only is not in the map.
func TestOnlyLevelZero(t *testing.T) {
	p := newPlain(shop(1, 1, 0, 0, 2))
	p.put(1, 1, 10, 0, 0, 1)
	p.put(2, 2, 20, 0, 0, 1)
	p.chain(t, 0, 0, 2)
	p.chain(t, 0, 1, 1, 2)
	p.chain(t, 0, 2, 1)
	s, m := p.show(t)
	mapped(t, s, api.Pair{Key: 2, Value: 20})
	p.looks(t, s, m)
}

// TestWriteUnlinked: P15.7, writing a tower that is in no list changes no pairs and no list.
func TestWriteUnlinked(t *testing.T) {
	draw := draws(4)
	p := newPlain(shop(2, 2, 3, 2, 2))
	p.put(2, 4, 40, 41, 0, 1)
	p.put(4, 6, 60, 61, 0, 5)
	p.put(6, 5, 50, 51, 0, 1)
	p.chain(t, 0, 0, 2, 4)
	p.chain(t, 0, 1, 4)
	p.chain(t, 1, 0, 6)
	p.chain(t, 1, 2, 6)
	s, _ := p.show(t)
	for range 500 {
		tower := []int{1, 3, 5, 7}[draw(4)]
		pair := api.Pair{Key: uint64(4 + draw(3)), Value: numbers[draw(len(numbers))]}
		w := writing(t, s, 0, tower, pair, valid[draw(len(valid))])
		for done := false; !done; {
			_, done = w.Step()
			mapped(t, s, api.Pair{Key: 4, Value: 40}, api.Pair{Key: 5, Value: 50}, api.Pair{Key: 6, Value: 60})
		}
	}
	lists(t, s, 0, 0, 2, 4)
	lists(t, s, 0, 1, 4)
	lists(t, s, 1, 0, 6)
	lists(t, s, 1, 2, 6)
}

// TestInitial: P15.8, a new store has empty lists and an empty map.
func TestInitial(t *testing.T) {
	for _, c := range append(configs(), shop(64, 16, api.MaxTowers), shop(1, 16, 0, 0, 0, 0, 0, api.MaxTowers)) {
		s, m, p := fresh(t, c)
		for value := range p.values {
			for level := range 6 {
				lists(t, s, value, level)
			}
		}
		mapped(t, s)
		if m.Len() != 0 {
			t.Error("accesses:", m.Len())
		}
	}
}

// TestCommit: P15.9, a descriptor decides about the conditional states with its entry, all of them at once, and about no others.
func TestCommit(t *testing.T) {
	for _, gen := range gens {
		for entry := range 3 {
			p := newPlain(shop(1, 3, 12))
			var before, now []api.Pair
			for i := range 12 {
				// Four towers for each entry: one that is live, born, gone and swapped.
				mine, key := i/4, uint64(100*i)
				kind := []uint8{api.StLive, api.StBorn, api.StGone, api.StSwap}[i%4]
				state := uint64(kind)
				if kind != api.StLive {
					state, _ = field.State(kind, mine, gen)
				}
				p.put(i+1, key, key+1, key+2, 0, state)
				one, two := api.Pair{Key: key, Value: key + 1}, api.Pair{Key: key, Value: key + 2}
				if kind != api.StBorn {
					before = append(before, one)
				}
				switch committed := mine == entry; {
				case kind == api.StSwap && committed:
					now = append(now, two)
				case kind == api.StBorn && !committed, kind == api.StGone && committed:
				default:
					now = append(now, one)
				}
			}
			p.chain(t, 0, 0, 1, 2, 3, 4, 5, 6, 7, 8, 9, 10, 11, 12)
			for other := range 3 {
				p.w[p.descs+other] = 2 * gen
			}
			s, m := p.show(t)
			mapped(t, s, before...)
			m.Store(0, p.descs+entry, 2*gen+1)
			mapped(t, s, now...)
			for _, other := range append(slices.Clone(gens), gen+1, gen-1) {
				if other == gen || other > api.MaxGen {
					continue
				}
				m.Store(0, p.descs+entry, 2*other)
				mapped(t, s, now...)
				m.Store(0, p.descs+entry, 2*other+1)
				mapped(t, s, now...)
			}
			m.Store(0, p.descs+entry, 2*gen)
			mapped(t, s, before...)
		}
	}
}

// TestLong: P15.3 to P15.6, many stores of words of all kinds, after each of which everything is as the document says.
func TestLong(t *testing.T) {
	for i, c := range configs() {
		draw := draws(uint64(100 + i))
		s, m, p := fresh(t, c)
		for range 400 {
			for range 1 + draw(4) {
				at := p.descs + draw(p.size-p.descs)
				v := uint64(draw(p.count + 2))
				switch place := place(t, c).Of(at); {
				case place.Kind == api.AtTower && place.Word == 4:
					v = valid[draw(12)]
				case place.Kind == api.AtDesc:
					v = uint64(draw(6))
				case draw(30) == 0:
					v = numbers[draw(len(numbers))]
				}
				m.Store(draw(64), at, v)
				p.w[at] = v
			}
			p.looks(t, s, m)
		}
	}
}

// TestMany: P15.5 and P15.6 for 1,024 towers, in one list, in a list that comes back, and in 64 lists that share their towers.
func TestMany(t *testing.T) {
	p := newPlain(shop(64, 16, 0, 0, 0, 0, 0, api.MaxTowers))
	all := make([]int, api.MaxTowers)
	want := make([]api.Pair, api.MaxTowers)
	for i := range all {
		tower := (i*645+17)%api.MaxTowers + 1
		all[i] = tower
		want[tower-1] = api.Pair{Key: uint64(tower) << 50, Value: uint64(tower)}
		p.put(tower, uint64(tower)<<50, uint64(tower), 0, 0, 1)
	}
	p.chain(t, 63, 0, all...)
	p.chain(t, 63, 5, all[500:]...)
	s, m := p.show(t)
	lists(t, s, 63, 0, all...)
	lists(t, s, 63, 5, all[500:]...)
	mapped(t, s, want...)
	at, _ := p.next(api.Ref(all[len(all)-1]), 0)
	m.Store(0, at, uint64(all[9]))
	lists(t, s, 63, 0, all...)
	for value := range 64 {
		at, _ := p.next(api.Ref(-1-value), 0)
		m.Store(0, at, uint64(all[16*value]))
	}
	lists(t, s, 63, 0, append(slices.Clone(all[16*63:]), all[9:16*63]...)...)
	mapped(t, s, want...)
}
