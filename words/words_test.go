package words

import (
	"math"
	"math/big"
	"slices"
	"testing"

	"leapfrog/api"
)

const last = math.MaxUint64

// numbers are words near both ends of the numbers and in between.
var numbers = []uint64{0, 1, 2, 1<<63 - 1, 1 << 63, last - 1, last}

// threads and nobody are numbers that are threads, and that are none.
var (
	threads = []int{0, 1, 7, 62, 63}
	nobody  = []int{-1, 64, 65, 128, -64, 1 << 32, 1<<32 + 1, math.MaxInt, math.MinInt}
)

// kinds are those of accesses.
var kinds = []uint8{api.Load, api.Store, api.Add, api.CompareAndSwap}

// nowhere returns numbers that are no address of a memory of n words.
func nowhere(n int) []int {
	return []int{n, -1, n + 1, 2 * n, -n, n + 1<<32, 1<<16 + n, math.MaxInt, math.MinInt}
}

// a returns an access without Swapped.
func a(thread, addr int, kind uint8, old, new uint64) api.Access {
	return api.Access{Thread: thread, Addr: addr, Kind: kind, Old: old, New: new}
}

// call is a call of a function that makes an access.
type call struct {
	kind         uint8
	thread, addr int
	old, v       uint64 // old for CompareAndSwap; v for all but Load
}

// answer is what a call returns.
type answer struct {
	word uint64
	set  bool
	e    api.Errno
}

// of performs the call.
func (c call) of(m *Mem) (r answer) {
	switch c.kind {
	case api.Load:
		r.word, r.e = m.Load(c.thread, c.addr)
	case api.Store:
		r.e = m.Store(c.thread, c.addr, c.v)
	case api.Add:
		r.word, r.e = m.Add(c.thread, c.addr, c.v)
	case api.CompareAndSwap:
		r.set, r.e = m.CompareAndSwap(c.thread, c.addr, c.old, c.v)
	}
	return r
}

// plain is a memory as the document speaks of it.
type plain struct {
	words []uint64
	log   []api.Access
}

// sum adds modulo 2^64, in numbers that do not wrap around.
func sum(x, y uint64) uint64 {
	b := new(big.Int).Add(new(big.Int).SetUint64(x), new(big.Int).SetUint64(y))
	return b.Mod(b, new(big.Int).Lsh(big.NewInt(1), 64)).Uint64()
}

// on performs the call as the document says.
func (c call) on(w *plain) (r answer) {
	if c.thread < 0 || c.thread > api.MaxThreads-1 {
		return answer{e: api.ErrArg}
	}
	if c.addr < 0 || c.addr > len(w.words)-1 {
		return answer{e: api.ErrRange}
	}
	x := a(c.thread, c.addr, c.kind, w.words[c.addr], w.words[c.addr])
	switch c.kind {
	case api.Load:
		r.word = x.Old
	case api.Store:
		x.New = c.v
	case api.Add:
		x.New = sum(x.Old, c.v)
		r.word = x.New
	case api.CompareAndSwap:
		if x.Old == c.old {
			x.New, x.Swapped, r.set = c.v, true, true
		}
	}
	w.words[c.addr] = x.New
	w.log = append(w.log, x)
	return r
}

// both performs a call on a memory and as the document says, and looks whether both come to the same.
func both(t *testing.T, m *Mem, w *plain, c call, what ...any) {
	t.Helper()
	if got, want := c.of(m), c.on(w); got != want {
		t.Error("call:", c, got, "and not", want, what)
	}
	same(t, m, w, "after", c, what)
}

// same looks whether a memory shows what it should show.
func same(t *testing.T, m *Mem, w *plain, what ...any) {
	t.Helper()
	if l := m.Words(); !slices.Equal(l, w.words) {
		t.Error("Words:", l, "and not", w.words, what)
	}
	if n := m.Len(); n != len(w.log) {
		t.Error("Len:", n, "and not", len(w.log), what)
	}
	if l := m.Log(0); !slices.Equal(l, w.log) {
		t.Error("Log:", l, "and not", w.log, what)
	}
	for addr, v := range w.words {
		if got, some := m.Peek(addr); got != v || !some {
			t.Error("Peek:", addr, got, some, "and not", v, what)
		}
	}
}

// made returns a memory with these words, and the same as the document says.
func made(t *testing.T, words ...uint64) (*Mem, *plain) {
	t.Helper()
	m, e := New(words...)
	if m == nil || e != api.OK {
		t.Fatal("New:", len(words), m, e)
	}
	return m, &plain{words: slices.Clone(words)}
}

// mixed returns numbers without a visible order, one at each call.
func mixed(seed uint64) func(n int) int {
	x := seed
	return func(n int) int {
		x = x*6364136223846793005 + 1442695040888963407
		return int((x ^ x>>29) >> 8 % uint64(n))
	}
}

// choose returns a call to an address among n, with words that often meet.
func choose(next func(n int) int, n int) call {
	word := func() uint64 { return numbers[next(len(numbers))] }
	return call{kind: kinds[next(len(kinds))], thread: next(api.MaxThreads), addr: next(n), old: word(), v: word()}
}

// calls returns a call of each kind and with each of some words, to each address of a memory of n words.
func calls(n int, words []uint64) []call {
	var l []call
	for addr := range n {
		l = append(l, call{kind: api.Load, thread: 5, addr: addr})
		for i, v := range words {
			l = append(l, call{kind: api.Store, thread: 0, addr: addr, v: v}, call{kind: api.Add, thread: 63, addr: addr, v: v})
			for _, old := range words {
				l = append(l, call{kind: api.CompareAndSwap, thread: i, addr: addr, old: old, v: v})
			}
		}
	}
	return l
}

// P8.1: as many words as a memory may have, and all numbers as words
func TestNew(t *testing.T) {
	for _, n := range []int{1, 2, 3, 64, 255, 256, 257, api.MaxWords - 1, api.MaxWords} {
		words := make([]uint64, n)
		for i := range words {
			words[i] = numbers[i%len(numbers)] - uint64(i/len(numbers))
		}
		m, e := New(words...)
		if m == nil || e != api.OK {
			t.Fatal("New:", n, m, e)
		}
		if !slices.Equal(m.Words(), words) || m.Len() != 0 || len(m.Log(0)) != 0 {
			t.Error("a new memory:", n, len(m.Words()), m.Len(), m.Log(0))
		}
	}
	for _, x := range numbers {
		for _, y := range numbers {
			m, w := made(t, x, y)
			same(t, m, w)
		}
	}
}

// P8.1: no words, and too many
func TestNewErrors(t *testing.T) {
	if m, e := New(); m != nil || e != api.ErrArg {
		t.Error("New without words:", m, e)
	}
	if m, e := New([]uint64{}...); m != nil || e != api.ErrArg {
		t.Error("New of an empty slice:", m, e)
	}
	for _, n := range []int{api.MaxWords + 1, api.MaxWords + 2, 2 * api.MaxWords, 1 << 20} {
		if m, e := New(make([]uint64, n)...); m != nil || e != api.ErrLong {
			t.Error("New of too many words:", n, m, e)
		}
	}
}

// P8.1: each memory is for itself
func TestNewIsIndependent(t *testing.T) {
	words := []uint64{5, 6}
	m, _ := New(words...)
	other, w := made(t, words...)
	m.Store(0, 0, 9)
	m.Add(1, 1, 9)
	same(t, other, w, "after accesses to another memory")
	if !slices.Equal(words, []uint64{5, 6}) {
		t.Error("accesses change the words that New was given:", words)
	}
	words[0] = 7
	same(t, other, w, "after a change of the words that New was given")
}

// P8.1 to P8.3, with R5: the methods of a nil memory, whose error comes before the others
func TestNil(t *testing.T) {
	var m *Mem
	for _, thread := range append(nobody, threads...) {
		for _, addr := range append(nowhere(1), 0) {
			for _, kind := range kinds {
				c := call{kind: kind, thread: thread, addr: addr, old: 1, v: 1}
				if r := c.of(m); r != (answer{e: api.ErrNil}) {
					t.Error("call:", c, r)
				}
			}
			if v, some := m.Peek(addr); v != 0 || some {
				t.Error("Peek:", addr, v, some)
			}
			if l := m.Log(addr); len(l) != 0 {
				t.Error("Log:", addr, l)
			}
		}
	}
	if l, n := m.Words(), m.Len(); len(l) != 0 || n != 0 {
		t.Error("Words, Len:", l, n)
	}
}

// P8.2: every access with all the numbers, of a memory with each two of them
func TestEveryCall(t *testing.T) {
	all := calls(2, numbers)
	for _, x := range numbers {
		for _, y := range numbers {
			for _, c := range all {
				m, w := made(t, x, y)
				both(t, m, w, c, x, y)
			}
		}
	}
}

// P8.2, P8.5: every two accesses of a memory of two words, and then what they left
func TestEveryTwoCalls(t *testing.T) {
	few := []uint64{0, 1, last}
	all := calls(2, few)
	for _, x := range few {
		for _, y := range few {
			for _, c := range all {
				for _, d := range all {
					m, w := made(t, x, y)
					c.of(m)
					c.on(w)
					both(t, m, w, d, x, y, c)
				}
			}
		}
	}
}

// P8.2: every thread, and every address of the greatest memory
func TestEveryPlace(t *testing.T) {
	m, w := made(t, make([]uint64, api.MaxWords)...)
	for i := range api.MaxWords {
		c := call{kind: kinds[i%3+1], thread: i % api.MaxThreads, addr: api.MaxWords - 1 - i, v: uint64(i)}
		if got, want := c.of(m), c.on(w); got != want {
			t.Fatal("call:", c, got, "and not", want)
		}
	}
	same(t, m, w)
}

// P8.2: threads and addresses that do not exist, of which the thread is looked at first; such a call is no access
func TestRefusedCalls(t *testing.T) {
	for _, n := range []int{1, 2, 64, 100, api.MaxWords} {
		m, w := made(t, make([]uint64, n)...)
		both(t, m, w, call{kind: api.Store, addr: n - 1, v: 3})
		refused := func(thread, addr int, e api.Errno) {
			t.Helper()
			for _, kind := range kinds {
				for _, old := range []uint64{0, 3} {
					c := call{kind: kind, thread: thread, addr: addr, old: old, v: 5}
					if r := c.of(m); r != (answer{e: e}) {
						t.Error("call:", n, c, r, "and not", e)
					}
				}
			}
		}
		for _, thread := range nobody {
			for _, addr := range append(nowhere(n), 0, n-1) {
				refused(thread, addr, api.ErrArg)
			}
		}
		for _, thread := range threads {
			for _, addr := range nowhere(n) {
				refused(thread, addr, api.ErrRange)
			}
		}
		same(t, m, w, "after refused calls")
	}
}

// P8.2: a word that is set to the number that it has is set
func TestSwapOfEqualWords(t *testing.T) {
	for _, x := range numbers {
		for _, y := range numbers {
			m, _ := made(t, x)
			if set, e := m.CompareAndSwap(3, 0, y, y); set != (x == y) || e != api.OK {
				t.Error("CompareAndSwap:", x, y, set, e)
			}
			want := api.Access{Thread: 3, Kind: api.CompareAndSwap, Old: x, New: x, Swapped: x == y}
			if l := m.Log(0); len(l) != 1 || l[0] != want {
				t.Error("Log:", x, y, l, "and not", want)
			}
		}
	}
}

// P8.3: addresses that do not exist
func TestPeek(t *testing.T) {
	for _, n := range []int{1, 2, 100, api.MaxWords} {
		words := make([]uint64, n)
		for i := range words {
			words[i] = uint64(i) + 7
		}
		m, _ := made(t, words...)
		for _, addr := range nowhere(n) {
			if v, some := m.Peek(addr); v != 0 || some {
				t.Error("Peek where there is no word:", n, addr, v, some)
			}
		}
		for addr := range n {
			if v, some := m.Peek(addr); v != words[addr] || !some {
				t.Error("Peek:", n, addr, v, some)
			}
		}
		if m.Len() != 0 || len(m.Log(0)) != 0 {
			t.Error("Peek is an access:", m.Log(0))
		}
	}
}

// P8.3: the log from every index on, and from those that are none
func TestLog(t *testing.T) {
	next := mixed(3)
	m, w := made(t, 1, 2, 3)
	for n := range 40 {
		for from := range n {
			if l := m.Log(from); !slices.Equal(l, w.log[from:]) {
				t.Error("Log:", from, l, "and not", w.log[from:])
			}
		}
		for _, from := range []int{-1, -2, -n, -n - 1, math.MinInt, n, n + 1, 2*n + 1, 1 << 32, math.MaxInt} {
			if l := m.Log(from); len(l) != 0 && from != 0 {
				t.Error("Log from an index that is none:", n, from, l)
			}
		}
		both(t, m, w, choose(next, 3))
	}
}

// P8.3: what only looks at a memory is no access and changes nothing
func TestLookingIsNoAccess(t *testing.T) {
	m, w := made(t, 5, 0)
	both(t, m, w, call{kind: api.Store, addr: 1, v: 8})
	for range 3 {
		m.Peek(0)
		m.Peek(2)
		m.Words()
		m.Log(0)
		m.Log(1)
		m.Len()
	}
	same(t, m, w, "after looking")
}

// P8.1, P8.3, with R3: results share no memory with the memory, and stay as they are
func TestMemoryOfResults(t *testing.T) {
	m, w := made(t, 5, 0, 7)
	next := mixed(1)
	for range 20 {
		both(t, m, w, choose(next, 3))
	}
	words, all, some := m.Words(), m.Log(0), m.Log(7)
	for i := range words {
		words[i] = 1000
	}
	for i := range all {
		all[i] = a(9, 9, 9, 9, 9)
	}
	for i := range some {
		some[i] = a(8, 8, 8, 8, 8)
	}
	if slices.Contains(all, some[0]) || slices.Contains(some, all[0]) {
		t.Error("results of Log share memory")
	}
	_, _, _ = append(words, 1), append(all, a(0, 0, 0, 0, 0)), append(some, a(0, 0, 0, 0, 0))
	same(t, m, w, "after results were changed")
	words, all, some = m.Words(), m.Log(0), m.Log(7)
	before, log := slices.Clone(w.words), slices.Clone(w.log)
	for range 100 {
		both(t, m, w, choose(next, 3))
	}
	if !slices.Equal(words, before) || !slices.Equal(all, log) || !slices.Equal(some, log[7:]) {
		t.Error("accesses change results that were returned before:", words, all, some)
	}
}

// allowed says what the document says of an access that is possible.
func allowed(words []uint64, x api.Access) bool {
	there := x.Thread >= 0 && x.Thread <= 63 && x.Addr >= 0 && x.Addr < len(words)
	if !there || x.Old != words[x.Addr] {
		return false
	}
	return x.Kind == api.Load && x.New == x.Old && !x.Swapped ||
		x.Kind == api.Store && !x.Swapped ||
		x.Kind == api.Add && !x.Swapped ||
		x.Kind == api.CompareAndSwap && x.Swapped ||
		x.Kind == api.CompareAndSwap && !x.Swapped && x.New == x.Old
}

// replayed looks whether Replay returns what it should return.
func replayed(t *testing.T, words []uint64, l ...api.Access) {
	t.Helper()
	want, at, e := slices.Clone(words), len(l), api.OK
	for i, x := range l {
		if !allowed(want, x) {
			want, at, e = nil, i, api.ErrAccess
			break
		}
		want[x.Addr] = x.New
	}
	if after, n, e2 := Replay(words, l...); !slices.Equal(after, want) || n != at || e2 != e {
		t.Error("Replay:", words, l, after, n, e2, "and not", want, at, e)
	}
}

// P8.4: single accesses, of every kind that a number of 8 bits may be, with all the numbers
func TestReplayOfOneAccess(t *testing.T) {
	for _, x := range numbers {
		words := []uint64{x, 1}
		replayed(t, words)
		for kind := range 256 {
			for _, old := range numbers {
				for _, new := range numbers {
					for addr := range 2 {
						l := a(kind%64, addr, uint8(kind), old, new)
						replayed(t, words, l)
						l.Swapped = true
						replayed(t, words, l)
					}
				}
			}
		}
	}
}

// P8.4: threads and addresses that exist, and others
func TestReplayOfPlaces(t *testing.T) {
	for _, n := range []int{1, 2, 3, 64, 65, api.MaxWords} {
		words := make([]uint64, n)
		for _, kind := range kinds {
			for _, thread := range append(nobody, threads...) {
				for _, addr := range append(nowhere(n), 0, n-1, n/2) {
					x := a(thread, addr, kind, 0, 0)
					after, at, e := Replay(words, x)
					good := allowed(words, x)
					if good && (!slices.Equal(after, words) || at != 1 || e != api.OK) {
						t.Error("Replay:", n, x, len(after), at, e)
					}
					if !good && (len(after) != 0 || at != 0 || e != api.ErrAccess) {
						t.Error("Replay of an access that is not possible:", n, x, len(after), at, e)
					}
				}
			}
		}
	}
}

// P8.4: every two accesses with a few words
func TestReplayOfTwoAccesses(t *testing.T) {
	var all []api.Access
	few := []uint64{0, 1, last}
	for kind := range uint8(6) {
		for _, old := range few {
			for _, new := range few {
				for addr := range 3 {
					x := a(int(kind), addr, kind, old, new)
					y := x
					y.Swapped = true
					all = append(all, x, y)
				}
			}
		}
	}
	for _, x := range all {
		for _, y := range all {
			replayed(t, []uint64{0, 1}, x, y)
		}
	}
}

// P8.4: the first words
func TestReplayOfWords(t *testing.T) {
	wrong := a(64, 0, 9, 9, 9)
	for _, l := range [][]api.Access{nil, {}, {a(0, 0, api.Load, 0, 0)}, {wrong}, {a(0, 0, api.Load, 0, 0), wrong}} {
		if after, at, e := Replay(nil, l...); len(after) != 0 || at != 0 || e != api.ErrArg {
			t.Error("Replay without words:", l, after, at, e)
		}
		if after, at, e := Replay([]uint64{}, l...); len(after) != 0 || at != 0 || e != api.ErrArg {
			t.Error("Replay of an empty slice:", l, after, at, e)
		}
		for _, n := range []int{api.MaxWords + 1, 2 * api.MaxWords} {
			if after, at, e := Replay(make([]uint64, n), l...); len(after) != 0 || at != 0 || e != api.ErrLong {
				t.Error("Replay of too many words:", n, l, len(after), at, e)
			}
		}
	}
	for _, n := range []int{1, 2, api.MaxWords} {
		if after, at, e := Replay(make([]uint64, n)); !slices.Equal(after, make([]uint64, n)) || at != 0 || e != api.OK {
			t.Error("Replay without accesses:", n, len(after), at, e)
		}
	}
}

// P8.4: the index of the first access that is not possible, wherever it is and whatever comes after it
func TestReplayStops(t *testing.T) {
	next := mixed(8)
	m, w := made(t, 1, 2, 3)
	first := slices.Clone(w.words)
	for range 60 {
		both(t, m, w, choose(next, 3))
	}
	spoil := []func(x *api.Access){
		func(x *api.Access) { x.Thread = 64 },
		func(x *api.Access) { x.Thread = -1 },
		func(x *api.Access) { x.Addr = 3 },
		func(x *api.Access) { x.Addr = -1 },
		func(x *api.Access) { x.Kind = 0 },
		func(x *api.Access) { x.Kind = 5 },
		func(x *api.Access) { x.Old++ },
		func(x *api.Access) { *x = a(x.Thread, x.Addr, api.Load, x.Old, x.Old+1) },
		func(x *api.Access) { *x = a(x.Thread, x.Addr, api.CompareAndSwap, x.Old, x.Old-1) },
		func(x *api.Access) { x.Kind, x.New, x.Swapped = api.Load, x.Old, true },
		func(x *api.Access) { x.Kind, x.Swapped = api.Store, true },
		func(x *api.Access) { x.Kind, x.Swapped = api.Add, true },
	}
	for i := range w.log {
		for way, f := range spoil {
			l := slices.Clone(w.log)
			f(&l[i])
			if after, at, e := Replay(first, l...); len(after) != 0 || at != i || e != api.ErrAccess {
				t.Error("Replay of a spoiled access:", i, way, after, at, e)
			}
			for j := i + 1; j < len(l); j++ {
				f(&l[j])
			}
			if after, at, e := Replay(first, l...); len(after) != 0 || at != i || e != api.ErrAccess {
				t.Error("Replay of many spoiled accesses:", i, way, after, at, e)
			}
		}
	}
}

// P8.4, with R3: Replay changes no argument, and its result shares no memory with one
func TestMemoryOfReplay(t *testing.T) {
	words := []uint64{5, 0}
	l := []api.Access{a(0, 0, api.Store, 5, 6), a(1, 1, api.Add, 0, 7), a(2, 0, api.Load, 6, 6)}
	kept := slices.Clone(l)
	after, at, e := Replay(words, l...)
	if !slices.Equal(after, []uint64{6, 7}) || at != 3 || e != api.OK {
		t.Error("Replay:", after, at, e)
	}
	after[0], after[1] = 100, 101
	Replay(words, append(l, a(0, 0, api.Load, 0, 0))...)
	if !slices.Equal(words, []uint64{5, 0}) || !slices.Equal(l, kept) {
		t.Error("Replay changes its arguments:", words, l)
	}
	after, _, _ = Replay(words)
	after[0] = 9
	if words[0] != 5 {
		t.Error("the result of Replay shares memory with its argument:", words)
	}
}

// P8.5: each access sees what the latest one to its address left, and Replay of the log, from any index on, leads to the words
func TestConsistency(t *testing.T) {
	for seed := range uint64(30) {
		next := mixed(seed)
		n := 1 + next(6)
		first := make([]uint64, n)
		for i := range first {
			first[i] = numbers[next(len(numbers))]
		}
		m, w := made(t, first...)
		var stages [][]uint64
		for range 200 {
			stages = append(stages, m.Words())
			both(t, m, w, choose(next, n), seed)
		}
		left := slices.Clone(first)
		for i, x := range m.Log(0) {
			if x.Old != left[x.Addr] {
				t.Error("an access that does not see the latest one:", seed, i, x, left)
			}
			left[x.Addr] = x.New
		}
		for from, words := range stages {
			after, at, e := Replay(words, m.Log(from)...)
			if !slices.Equal(after, m.Words()) || at != 200-from || e != api.OK {
				t.Error("Replay of a log:", seed, from, after, at, e)
			}
		}
	}
}

// P8.6: two accesses to different addresses, in either order
func TestIndependence(t *testing.T) {
	all := calls(2, []uint64{0, 1, 1 << 63, last})
	for _, x := range []uint64{0, 1, last} {
		for _, c := range all {
			for _, d := range all {
				if c.addr == d.addr {
					continue
				}
				m, _ := New(x, 1)
				r, s := c.of(m), d.of(m)
				o, _ := New(x, 1)
				if s2, r2 := d.of(o), c.of(o); r != r2 || s != s2 || !slices.Equal(m.Words(), o.Words()) {
					t.Error("accesses to different addresses:", x, c, d, m.Words(), o.Words())
				}
			}
		}
	}
}

// P8.7: numbers that are added one after another, in any order
func TestAdds(t *testing.T) {
	for _, x := range numbers {
		for seed := range uint64(20) {
			next := mixed(seed)
			m, _ := New(7, x)
			want := x
			for range 50 {
				d := numbers[next(len(numbers))]
				want = sum(want, d)
				if got, e := m.Add(next(api.MaxThreads), 1, d); got != want || e != api.OK {
					t.Error("Add:", x, seed, d, got, e, "and not", want)
				}
			}
			if l := m.Words(); !slices.Equal(l, []uint64{7, want}) {
				t.Error("after a number of Adds:", x, seed, l, "and not", want)
			}
		}
	}
}

// P8.7: a CompareAndSwap that does not swap changes nothing but the log
func TestSwapThatFails(t *testing.T) {
	for _, x := range numbers {
		for _, old := range numbers {
			for _, v := range numbers {
				m, _ := New(x, 3)
				set, e := m.CompareAndSwap(0, 0, old, v)
				if e != api.OK || set != (old == x) {
					t.Error("CompareAndSwap:", x, old, v, set, e)
				}
				if !set && !slices.Equal(m.Words(), []uint64{x, 3}) || m.Len() != 1 {
					t.Error("after a CompareAndSwap that does not swap:", x, old, v, m.Words(), m.Len())
				}
			}
		}
	}
}

// The examples of the chapter, which follow each other.
func TestExamples(t *testing.T) {
	m, _ := New(5, 0)
	if v, e := m.Add(1, 0, last-1); v != 3 || e != api.OK {
		t.Error("Add:", v, e)
	}
	if v, e := m.Load(0, 0); v != 3 || e != api.OK {
		t.Error("Load:", v, e)
	}
	if set, e := m.CompareAndSwap(2, 1, 0, 9); !set || e != api.OK {
		t.Error("CompareAndSwap:", set, e)
	}
	if set, e := m.CompareAndSwap(2, 1, 0, 8); set || e != api.OK {
		t.Error("CompareAndSwap:", set, e)
	}
	if e, f := m.Store(0, 2, 1), m.Store(64, 0, 1); e != api.ErrRange || f != api.ErrArg {
		t.Error("Store:", e, f)
	}
	want := []api.Access{
		{Thread: 1, Addr: 0, Kind: api.Add, Old: 5, New: 3},
		{Thread: 0, Addr: 0, Kind: api.Load, Old: 3, New: 3},
		{Thread: 2, Addr: 1, Kind: api.CompareAndSwap, Old: 0, New: 9, Swapped: true},
		{Thread: 2, Addr: 1, Kind: api.CompareAndSwap, Old: 9, New: 9},
	}
	l := m.Log(0)
	if !slices.Equal(l, want) {
		t.Error("Log:", l, "and not", want)
	}
	if after, at, e := Replay([]uint64{5, 0}, l...); !slices.Equal(after, []uint64{3, 9}) || at != 4 || e != api.OK {
		t.Error("Replay:", after, at, e)
	}
	if after, at, e := Replay([]uint64{0, 0}, l...); len(after) != 0 || at != 0 || e != api.ErrAccess {
		t.Error("Replay:", after, at, e)
	}
}
