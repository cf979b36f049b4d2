package merge

import (
	"cmp"
	"math"
	"slices"
	"testing"

	"leapfrog/api"
	"leapfrog/domain"
)

const last = math.MaxUint64

// width is the number of keys of a window.
const width = 4

// windows are the first keys of the windows whose keys are offered: at both ends of the keys and in between.
var windows = []uint64{0, 1<<63 - 2, last - width + 1}

// strangers are numbers that are no list of any merge.
var strangers = []int{-1, 64, 65, 128, -64, 1 << 32, 1<<32 + 2, math.MaxInt, math.MinInt}

// p returns a pair.
func p(key, value uint64) api.Pair {
	return api.Pair{Key: key, Value: value}
}

// what a list of a merge has
const (
	nothing = iota // it is no list of the merge
	lacks          // no candidate
	filled         // a candidate
	ended          // no further pair
)

// place is what a list has.
type place struct {
	kind int
	pair api.Pair
}

// plain is a merge as the document speaks of it. It is compared as a whole.
type plain struct {
	lists   [api.MaxDomain]place
	floored bool
	floor   uint64
	over    bool // 2^64 - 1 was popped
}

// start returns a merge at its beginning.
func start(set uint64) plain {
	w := plain{}
	for i := range w.lists {
		if set>>i&1 == 1 {
			w.lists[i].kind = lacks
		}
	}
	return w
}

// having returns the lists of a kind, in ascending order.
func (w *plain) having(kind int) []int {
	var l []int
	for i := range w.lists {
		if w.lists[i].kind == kind {
			l = append(l, i)
		}
	}
	return l
}

// byKey returns the lists that have a candidate, in ascending order of its key.
func (w *plain) byKey() []int {
	l := w.having(filled)
	slices.SortFunc(l, func(a, b int) int { return cmp.Compare(w.lists[a].pair.Key, w.lists[b].pair.Key) })
	return l
}

// candidates returns the candidates in ascending order of keys.
func (w *plain) candidates() []api.Pair {
	var l []api.Pair
	for _, i := range w.byKey() {
		l = append(l, w.lists[i].pair)
	}
	return l
}

// refuses is the error of Offer and End that says that the list does not lack a candidate.
func (w *plain) refuses(list int) api.Errno {
	if list < 0 || list >= len(w.lists) || w.lists[list].kind == nothing {
		return api.ErrRange
	}
	if w.lists[list].kind != lacks {
		return api.ErrState
	}
	return api.OK
}

// offer does what the document says of Offer.
func (w *plain) offer(list int, x api.Pair) api.Errno {
	if e := w.refuses(list); e != api.OK {
		return e
	}
	if w.floored && x.Key < w.floor || w.over {
		return api.ErrArg
	}
	for _, y := range w.candidates() {
		if y.Key == x.Key {
			return api.ErrHave
		}
	}
	w.lists[list] = place{kind: filled, pair: x}
	return api.OK
}

// end does what the document says of End.
func (w *plain) end(list int) api.Errno {
	e := w.refuses(list)
	if e == api.OK {
		w.lists[list].kind = ended
	}
	return e
}

// pop does what the document says of Pop.
func (w *plain) pop() (x api.Pair, list int, ok bool, e api.Errno) {
	if len(w.having(lacks)) > 0 {
		return api.Pair{}, 0, false, api.ErrState
	}
	l := w.byKey()
	if len(l) == 0 {
		return api.Pair{}, 0, false, api.OK
	}
	x = w.lists[l[0]].pair
	w.lists[l[0]] = place{kind: lacks}
	if x.Key == last {
		w.over = true
	} else {
		w.floored, w.floor = true, x.Key+1
	}
	return x, l[0], true, api.OK
}

// skip does what the document says of Skip.
func (w *plain) skip(from uint64) int {
	if !w.floored || w.floor < from {
		w.floored, w.floor = true, from
	}
	n := 0
	for _, i := range w.having(filled) {
		if w.lists[i].pair.Key < from {
			w.lists[i] = place{kind: lacks}
			n++
		}
	}
	return n
}

// the functions that a call may be of
const (
	offer = iota
	end
	pop
	skip
)

// call is a call of a function that changes a merge.
type call struct {
	kind int
	list int      // for Offer and End
	pair api.Pair // for Offer; for Skip the key alone
}

// answer is what a call returns.
type answer struct {
	pair api.Pair
	n    int // the list of Pop, the number of Skip
	ok   bool
	e    api.Errno
}

// of performs the call.
func (c call) of(m *Merge) (a answer) {
	switch c.kind {
	case offer:
		a.e = m.Offer(c.list, c.pair)
	case end:
		a.e = m.End(c.list)
	case pop:
		a.pair, a.n, a.ok, a.e = m.Pop()
	case skip:
		a.n, a.e = m.Skip(c.pair.Key)
	}
	return a
}

// on performs the call as the document says.
func (c call) on(w *plain) (a answer) {
	switch c.kind {
	case offer:
		a.e = w.offer(c.list, c.pair)
	case end:
		a.e = w.end(c.list)
	case pop:
		a.pair, a.n, a.ok, a.e = w.pop()
	case skip:
		a.n = w.skip(c.pair.Key)
	}
	return a
}

// both performs a call on a merge and as the document says, and looks whether both come to the same.
func both(t *testing.T, m *Merge, w *plain, c call, what ...any) answer {
	t.Helper()
	got, want := c.of(m), c.on(w)
	if got != want {
		t.Error("call:", c, got, "and not", want, what)
	}
	same(t, m, w, "after", c, what)
	return got
}

// same looks whether a merge shows what it should show.
func same(t *testing.T, m *Merge, w *plain, what ...any) {
	t.Helper()
	if l, want := m.Missing(), w.having(lacks); !slices.Equal(l, want) {
		t.Error("Missing:", l, "and not", want, what)
	}
	if l, want := m.List(), w.candidates(); !slices.Equal(l, want) {
		t.Error("List:", l, "and not", want, what)
	}
}

// calls returns the calls about a window: Offer and End of the lists of a set and of others, and Skip of all keys of the window and of those beside it, which at the ends of the keys are at the other end.
func calls(set, from uint64) []call {
	l := []call{{kind: pop}, {kind: skip}, {kind: skip, pair: p(last, 0)}}
	for _, list := range append(domain.Members(set), 1, 64, -1) {
		l = append(l, call{kind: end, list: list})
		for i := range uint64(width) {
			// Values descend where keys ascend, so that one can not stand for the other.
			l = append(l, call{kind: offer, list: list, pair: p(from+i, 100*uint64(list)-i)})
		}
	}
	for i := range uint64(width + 2) {
		l = append(l, call{kind: skip, pair: p(from+i-1, 0)})
	}
	return l
}

// after returns a merge after some calls.
func after(set uint64, past []call) *Merge {
	m := New(set)
	for _, c := range past {
		c.of(m)
	}
	return m
}

// eachState calls f with every state that calls lead a merge to, and with calls that lead to it.
func eachState(set uint64, all []call, f func(w plain, past []call)) int {
	past := map[plain][]call{start(set): nil}
	states := []plain{start(set)}
	for i := 0; i < len(states); i++ {
		f(states[i], past[states[i]])
		for _, c := range all {
			w := states[i]
			c.on(&w)
			if _, known := past[w]; !known {
				past[w] = append(slices.Clone(past[states[i]]), c)
				states = append(states, w)
			}
		}
	}
	return len(states)
}

// sets returns some sets of lists.
func sets() []uint64 {
	l := []uint64{0, last, 1, 1 << 63, 1<<63 | 1, 1<<0 | 1<<2 | 1<<5, last - 1, last >> 1, 0x5555555555555555, 0xffff0000ffff0000}
	for i := range 64 {
		l = append(l, 1<<i, 1<<i-1, 7<<i)
	}
	return l
}

// mixed returns numbers without a visible order, one at each call.
func mixed(seed uint64) func(n int) int {
	x := seed
	return func(n int) int {
		x = x*6364136223846793005 + 1442695040888963407
		return int((x ^ x>>29) >> 8 % uint64(n))
	}
}

// P7.1
func TestNew(t *testing.T) {
	for _, set := range sets() {
		m := New(set)
		if m == nil {
			t.Fatal("New:", set)
		}
		w := start(set)
		same(t, m, &w, "after New", set)
		if l := m.Missing(); !slices.Equal(l, domain.Members(set)) {
			t.Error("Missing of a new merge:", set, l)
		}
		if x, list, ok, e := m.Pop(); x != p(0, 0) || list != 0 || ok || (e == api.OK) != (set == 0) {
			t.Error("Pop of a new merge:", set, x, list, ok, e)
		}
	}
}

// P7.1: each merge is for itself
func TestNewIsIndependent(t *testing.T) {
	a, b := New(6), New(6)
	a.Offer(1, p(3, 30))
	a.End(2)
	b.Skip(2)
	if l := b.Missing(); !slices.Equal(l, []int{1, 2}) || len(b.List()) != 0 {
		t.Error("a merge after calls to another one:", l, b.List())
	}
	if e := b.Offer(2, p(3, 31)); e != api.OK {
		t.Error("Offer of a key that another merge has:", e)
	}
	if x, list, ok, e := a.Pop(); x != p(3, 30) || list != 1 || !ok || e != api.OK {
		t.Error("Pop:", x, list, ok, e)
	}
}

// P7.1 to P7.4, with R5: the methods of a nil merge, whose error comes before the others
func TestNil(t *testing.T) {
	var m *Merge
	if l := m.Missing(); len(l) != 0 {
		t.Error("Missing:", l)
	}
	if l := m.List(); len(l) != 0 {
		t.Error("List:", l)
	}
	for _, list := range append(strangers, 0, 1, 63) {
		if e := m.Offer(list, p(1, 10)); e != api.ErrNil {
			t.Error("Offer:", list, e)
		}
		if e := m.End(list); e != api.ErrNil {
			t.Error("End:", list, e)
		}
	}
	if x, list, ok, e := m.Pop(); x != p(0, 0) || list != 0 || ok || e != api.ErrNil {
		t.Error("Pop:", x, list, ok, e)
	}
	for _, from := range []uint64{0, 1, last} {
		if n, e := m.Skip(from); n != 0 || e != api.ErrNil {
			t.Error("Skip:", from, n, e)
		}
	}
}

// P7.2: numbers that are no lists of the merge, whatever its lists have
func TestStrangeLists(t *testing.T) {
	for _, set := range sets() {
		m, w := New(set), start(set)
		others := strangers
		for list := range api.MaxDomain {
			if set>>list&1 == 0 {
				others = append(slices.Clip(others), list)
			}
		}
		look := func() {
			for _, list := range others {
				if e := m.Offer(list, p(uint64(list), 1)); e != api.ErrRange {
					t.Error("Offer:", set, list, e)
				}
				if e := m.End(list); e != api.ErrRange {
					t.Error("End:", set, list, e)
				}
			}
			same(t, m, &w, "after refused calls", set)
		}
		look()
		for _, list := range domain.Members(set) {
			both(t, m, &w, call{kind: offer, list: list, pair: p(uint64(list)+7, 1)}, set)
		}
		look()
		both(t, m, &w, call{kind: skip, pair: p(last, 0)}, set)
		for _, list := range domain.Members(set) {
			both(t, m, &w, call{kind: end, list: list}, set)
		}
		look()
	}
}

// P7.1 to P7.4: every call in every state of a merge of three lists
func TestEveryCall(t *testing.T) {
	set := uint64(1<<0 | 1<<2 | 1<<5)
	for _, from := range windows {
		all := calls(set, from)
		n := eachState(set, all, func(w plain, past []call) {
			for _, c := range all {
				next := w
				both(t, after(set, past), &next, c, past)
			}
		})
		if n < 400 {
			t.Error("too few states:", from, n)
		}
	}
}

// P7.1 to P7.4: every two calls in every state of a merge of two lists; the second one shows the floor that the first one left
func TestEveryTwoCalls(t *testing.T) {
	set := uint64(1<<4 | 1<<63)
	for _, from := range windows {
		all := calls(set, from)
		n := eachState(set, all, func(w plain, past []call) {
			for _, c := range all {
				for _, d := range all {
					m, next := after(set, past), w
					c.of(m)
					c.on(&next)
					both(t, m, &next, d, past, c)
				}
			}
		})
		if n < 80 {
			t.Error("too few states:", from, n)
		}
	}
}

// P7.2: a key just below the floor, and the floor itself
func TestFloor(t *testing.T) {
	for _, key := range []uint64{0, 1, 5, 1<<63 - 1, 1 << 63, last - 2, last - 1} {
		for _, popped := range []bool{true, false} {
			m := New(1)
			if popped {
				m.Offer(0, p(key, 1))
				m.Pop()
			} else {
				m.Skip(key + 1)
			}
			for _, below := range []uint64{0, key / 2, key} {
				if e := m.Offer(0, p(below, 1)); e != api.ErrArg {
					t.Error("Offer below the floor:", key, popped, below, e)
				}
			}
			if e := m.Offer(0, p(key+1, 1)); e != api.OK {
				t.Error("Offer at the floor:", key, popped, e)
			}
		}
	}
}

// P7.2, P7.3: after 2^64 - 1 was popped no key may be offered, also after Skip
func TestLastKey(t *testing.T) {
	keys := []uint64{0, 1, 5, 1 << 63, last - 1, last}
	for _, from := range keys {
		m := New(3)
		m.Offer(0, p(last, 7))
		m.Offer(1, p(last-1, 8))
		if x, list, ok, e := m.Pop(); x != p(last-1, 8) || list != 1 || !ok || e != api.OK {
			t.Error("Pop of the key before the last one:", x, list, ok, e)
		}
		if e := m.Offer(1, p(last, 9)); e != api.ErrHave {
			t.Error("Offer of the last key again:", e)
		}
		m.End(1)
		if x, list, ok, e := m.Pop(); x != p(last, 7) || list != 0 || !ok || e != api.OK {
			t.Error("Pop of the last key:", x, list, ok, e)
		}
		for range 2 {
			for _, key := range keys {
				if e := m.Offer(0, p(key, 1)); e != api.ErrArg {
					t.Error("Offer after the last key was popped:", key, e)
				}
			}
			if n, e := m.Skip(from); n != 0 || e != api.OK {
				t.Error("Skip after the last key was popped:", from, n, e)
			}
		}
		if e := m.Offer(1, p(last, 1)); e != api.ErrState {
			t.Error("Offer to a list that has ended:", e)
		}
		if e := m.End(0); e != api.OK || len(m.Missing()) != 0 {
			t.Error("End after the last key was popped:", e, m.Missing())
		}
		if x, list, ok, e := m.Pop(); x != p(0, 0) || list != 0 || ok || e != api.OK {
			t.Error("Pop when all lists have ended:", x, list, ok, e)
		}
	}
}

// P7.4: Skip to 2^64 - 1 keeps a candidate with this key, which may be offered afterwards as well
func TestSkipToLastKey(t *testing.T) {
	m := New(3)
	m.Offer(0, p(last, 7))
	m.Offer(1, p(last-1, 8))
	if n, e := m.Skip(last); n != 1 || e != api.OK || !slices.Equal(m.Missing(), []int{1}) {
		t.Error("Skip to the last key:", n, e, m.Missing())
	}
	if e := m.Offer(1, p(last-1, 8)); e != api.ErrArg {
		t.Error("Offer of the key before the last one:", e)
	}
	if e := m.Offer(1, p(last, 8)); e != api.ErrHave {
		t.Error("Offer of the last key, which the other list has:", e)
	}
	m.End(1)
	popped(t, m, p(last, 7), 0, true)
	m = New(1)
	m.Skip(last)
	if e := m.Offer(0, p(last, 9)); e != api.OK {
		t.Error("Offer of the last key at the floor:", e)
	}
	popped(t, m, p(last, 9), 0, true)
}

// P7.4: Skip does not lower the floor
func TestSkipBackwards(t *testing.T) {
	m := New(1)
	m.Skip(8)
	for _, from := range []uint64{0, 7, 8} {
		if n, e := m.Skip(from); n != 0 || e != api.OK {
			t.Error("Skip:", from, n, e)
		}
		if e := m.Offer(0, p(7, 1)); e != api.ErrArg {
			t.Error("Offer below the floor after Skip:", from, e)
		}
	}
	if e := m.Offer(0, p(8, 1)); e != api.OK {
		t.Error("Offer at the floor:", e)
	}
	if n, e := m.Skip(8); n != 0 || e != api.OK || !slices.Equal(m.List(), []api.Pair{p(8, 1)}) {
		t.Error("Skip to the key of a candidate:", n, e, m.List())
	}
}

// P7.4: all candidates of 64 lists, dropped in parts
func TestSkipMany(t *testing.T) {
	for _, from := range []uint64{0, 1, 2, 31, 32, 33, 62, 63, 64, last} {
		m, w := New(last), start(last)
		next := mixed(from)
		keys := make([]uint64, 64)
		for i := range keys {
			j := next(i + 1)
			keys[i], keys[j] = keys[j], uint64(i)
		}
		for i, key := range keys {
			both(t, m, &w, call{kind: offer, list: i, pair: p(key, uint64(i))}, from)
		}
		a := both(t, m, &w, call{kind: skip, pair: p(from, 0)}, from)
		if a.n != int(min(from, 64)) {
			t.Error("Skip:", from, a.n)
		}
		both(t, m, &w, call{kind: pop}, from)
	}
}

// P7.1, P7.4, with R3: results are memory of their own, and stay as they are
func TestMemory(t *testing.T) {
	m, w := New(0xff), start(0xff)
	for i, key := range []uint64{50, 20, 70, 10, 30} {
		both(t, m, &w, call{kind: offer, list: i, pair: p(key, uint64(i))})
	}
	missing, list := m.Missing(), m.List()
	for i := range missing {
		missing[i] = 0
	}
	for i := range list {
		list[i] = p(1, 1)
	}
	_, _ = append(missing, 1), append(list, p(2, 2))
	same(t, m, &w, "after its results were changed")
	before, kept := m.List(), m.Missing()
	for i := 5; i < 8; i++ {
		both(t, m, &w, call{kind: end, list: i})
	}
	both(t, m, &w, call{kind: pop})
	both(t, m, &w, call{kind: skip, pair: p(40, 0)})
	both(t, m, &w, call{kind: offer, list: 1, pair: p(45, 9)})
	if !slices.Equal(before, []api.Pair{p(10, 3), p(20, 1), p(30, 4), p(50, 0), p(70, 2)}) || !slices.Equal(kept, []int{5, 6, 7}) {
		t.Error("calls change results that were returned before:", before, kept)
	}
}

// source is a pair and the list that it comes from.
type source struct {
	pair api.Pair
	list int
}

// merged offers each list its pairs one after another, whenever it lacks a candidate, and returns what Pop returns until there is nothing.
func merged(t *testing.T, set uint64, sequences map[int][]api.Pair, backwards bool) []source {
	t.Helper()
	var all []source
	m, given := New(set), map[int]int{}
	for {
		lists := m.Missing()
		if backwards {
			slices.Reverse(lists)
		}
		for _, list := range lists {
			if _, _, _, e := m.Pop(); e != api.ErrState {
				t.Fatal("Pop while a list lacks a candidate:", e)
			}
			rest := sequences[list][given[list]:]
			e := api.OK
			if len(rest) == 0 {
				e = m.End(list)
			} else {
				e = m.Offer(list, rest[0])
				given[list]++
			}
			if e != api.OK {
				t.Fatal("Offer or End:", set, sequences, list, rest, e)
			}
		}
		x, list, ok, e := m.Pop()
		if e != api.OK || !ok {
			if x != p(0, 0) || list != 0 || e != api.OK {
				t.Error("Pop when there is nothing:", x, list, e)
			}
			return all
		}
		all = append(all, source{x, list})
	}
}

// P7.5: all ways to give the keys of a window to three lists, or to none
func TestMerging(t *testing.T) {
	set := uint64(1<<0 | 1<<2 | 1<<5)
	lists := domain.Members(set)
	for _, from := range []uint64{0, 1<<63 - 2, last - 5} {
		for way := range 4096 {
			sequences := map[int][]api.Pair{}
			var want []source
			for i := range uint64(6) {
				if turn := way >> (2 * i) & 3; turn < 3 {
					x := p(from+i, last-i)
					sequences[lists[turn]] = append(sequences[lists[turn]], x)
					want = append(want, source{x, lists[turn]})
				}
			}
			for _, backwards := range []bool{false, true} {
				if got := merged(t, set, sequences, backwards); !slices.Equal(got, want) {
					t.Error("merging:", sequences, backwards, got, "and not", want)
				}
			}
		}
	}
}

// P7.5: many pairs, of as many lists as there are domain values
func TestMergingMany(t *testing.T) {
	for _, set := range []uint64{last, 1<<63 | 1, 0xf0f0f0f0f0f0f0f0, 1 << 17, 0} {
		lists := domain.Members(set)
		next := mixed(set)
		sequences := map[int][]api.Pair{}
		var want []source
		for key := uint64(3); key < 1<<60 && len(lists) > 0; key += 1 + key/8 {
			list := lists[next(len(lists))]
			x := p(key, ^key)
			sequences[list] = append(sequences[list], x)
			want = append(want, source{x, list})
		}
		if len(lists) > 0 && len(want) < 300 {
			t.Error("too few pairs:", len(want))
		}
		if got := merged(t, set, sequences, false); !slices.Equal(got, want) {
			t.Error("merging many pairs:", set, len(got), len(want))
		}
	}
}

// P7.6, P7.7: long sequences of calls, most of which are not refused
func TestManyCalls(t *testing.T) {
	pops := 0
	for seed := range uint64(200) {
		set := sets()[int(seed)%len(sets())]
		m, w := New(set), start(set)
		next := mixed(seed)
		// Keys near the end of the keys come to it, and those at the beginning do not.
		low := uint64(0)
		if seed%2 == 1 {
			low = last - 200
		}
		least, some, gone := uint64(0), false, map[int]bool{}
		for range 400 {
			c := choose(m, next, low)
			if w.floored {
				low = max(low, w.floor)
			}
			a := both(t, m, &w, c, seed)
			if c.kind == skip && (!some || c.pair.Key > least) {
				least, some = c.pair.Key, true
			}
			if c.kind == end && a.e == api.OK {
				gone[c.list] = true
			}
			if c.kind == pop && a.ok {
				pops++
				if some && a.pair.Key < least {
					t.Error("Pop of a key that is too small:", seed, a, least)
				}
				least, some = a.pair.Key+1, true
				if gone[a.n] {
					t.Error("Pop of a list that has ended:", seed, a)
				}
			}
			if n := len(m.Missing()) + len(m.List()) + len(gone); n != len(domain.Members(set)) {
				t.Error("candidates, lists that lack one and ended ones:", seed, n)
			}
			for list := range gone {
				if m.Offer(list, p(last, 0)) != api.ErrState || m.End(list) != api.ErrState {
					t.Error("a list that has ended:", seed, list)
				}
			}
		}
	}
	if pops < 5000 {
		t.Error("too few pops:", pops)
	}
}

// choose returns a call: mostly an offer to a list that lacks a candidate, or Pop if none does.
func choose(m *Merge, next func(n int) int, low uint64) call {
	missing := m.Missing()
	switch n := next(200); {
	case n < 4:
		return call{kind: skip, pair: p(low+uint64(next(8))-2, 0)}
	case n < 12:
		return call{kind: offer, list: next(68) - 2, pair: p(low+uint64(next(8))-2, uint64(n))}
	case n < 14:
		return call{kind: end, list: next(68) - 2}
	case n < 20 || len(missing) == 0:
		return call{kind: pop}
	case n < 22:
		return call{kind: end, list: missing[next(len(missing))]}
	}
	return call{kind: offer, list: missing[next(len(missing))], pair: p(low+uint64(next(90)), uint64(next(5)))}
}

// The examples of the chapter: the first row.
func TestExampleOfOffers(t *testing.T) {
	m := New(1<<0 | 1<<2 | 1<<5)
	if l := m.Missing(); !slices.Equal(l, []int{0, 2, 5}) {
		t.Error("Missing:", l)
	}
	if _, _, _, e := m.Pop(); e != api.ErrState {
		t.Error("Pop:", e)
	}
	offers(t, m, []offered{{1, p(3, 0), api.ErrRange}, {2, p(3, 30), api.OK}, {2, p(4, 0), api.ErrState}, {0, p(3, 9), api.ErrHave}})
}

// offered is an offer and its error.
type offered struct {
	list int
	pair api.Pair
	e    api.Errno
}

// offers makes offers and looks at their errors.
func offers(t *testing.T, m *Merge, l []offered) {
	t.Helper()
	for _, x := range l {
		if e := m.Offer(x.list, x.pair); e != x.e {
			t.Error("Offer:", x.list, x.pair, e, "and not", x.e)
		}
	}
}

// popped looks at what Pop returns.
func popped(t *testing.T, m *Merge, x api.Pair, list int, ok bool) {
	t.Helper()
	if y, list2, ok2, e := m.Pop(); y != x || list2 != list || ok2 != ok || e != api.OK {
		t.Error("Pop:", y, list2, ok2, e, "and not", x, list, ok)
	}
}

// The examples of the chapter: the second and the third row, after the first one.
func TestExampleOfPops(t *testing.T) {
	m := New(1<<0 | 1<<2 | 1<<5)
	offers(t, m, []offered{{2, p(3, 30), api.OK}, {0, p(7, 70), api.OK}})
	if e := m.End(5); e != api.OK || len(m.Missing()) != 0 {
		t.Error("End, Missing:", e, m.Missing())
	}
	if l := m.List(); !slices.Equal(l, []api.Pair{p(3, 30), p(7, 70)}) {
		t.Error("List:", l)
	}
	popped(t, m, p(3, 30), 2, true)
	if l := m.Missing(); !slices.Equal(l, []int{2}) {
		t.Error("Missing:", l)
	}
	offers(t, m, []offered{{2, p(3, 1), api.ErrArg}, {2, p(8, 80), api.OK}})
	if n, e := m.Skip(8); n != 1 || e != api.OK {
		t.Error("Skip:", n, e)
	}
	if l := m.Missing(); !slices.Equal(l, []int{0}) {
		t.Error("Missing:", l)
	}
	if e := m.End(0); e != api.OK {
		t.Error("End:", e)
	}
	popped(t, m, p(8, 80), 2, true)
	if e := m.End(2); e != api.OK {
		t.Error("End:", e)
	}
	popped(t, m, p(0, 0), 0, false)
}

// The examples of the chapter: the last row.
func TestExampleOfNoLists(t *testing.T) {
	m := New(0)
	if l := m.Missing(); len(l) != 0 {
		t.Error("Missing:", l)
	}
	popped(t, m, p(0, 0), 0, false)
}
