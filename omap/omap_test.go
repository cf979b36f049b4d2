package omap

import (
	"cmp"
	"maps"
	"math"
	"math/bits"
	"slices"
	"testing"

	"leapfrog/api"
)

const last = math.MaxUint64

// width is the number of keys of a window.
const width = 5

// windows are the first keys of the windows in which all sets of keys are tried: at both ends of the keys and in between.
var windows = []uint64{0, 1<<63 - 2, last - width + 1}

// p returns a pair.
func p(key, value uint64) api.Pair {
	return api.Pair{Key: key, Value: value}
}

// r returns a range.
func r(lo, hi uint64) api.Span {
	return api.Span{Lo: lo, Hi: hi}
}

// plain is a map as the document speaks of it.
type plain map[uint64]uint64

// list returns the pairs in ascending order of keys.
func (w plain) list() []api.Pair {
	var l []api.Pair
	for _, key := range slices.Sorted(maps.Keys(w)) {
		l = append(l, p(key, w[key]))
	}
	return l
}

// part returns the pairs with keys in a range, in ascending order of keys.
func (w plain) part(s api.Span) []api.Pair {
	return slices.DeleteFunc(w.list(), func(x api.Pair) bool { return x.Key < s.Lo || x.Key > s.Hi })
}

// without returns the map without the keys of a range.
func (w plain) without(s api.Span) plain {
	rest := plain{}
	for key, value := range w {
		if key < s.Lo || key > s.Hi {
			rest[key] = value
		}
	}
	return rest
}

// with returns the map with a pair put into it.
func (w plain) with(key, value uint64) plain {
	more := maps.Clone(w)
	more[key] = value
	return more
}

// moved returns the map after a range was moved: its pairs are taken out, and put back one by one.
func (w plain) moved(s api.Span, by uint64) plain {
	after := w.without(s)
	for _, x := range w.part(s) {
		after[x.Key+by] = x.Value
	}
	return after
}

// refusal is the error that the document gives moving a range.
func refusal(s api.Span, by uint64) api.Errno {
	if s.Lo > s.Hi || by == 0 {
		return api.ErrBad
	}
	if _, carry := bits.Add64(s.Hi, by, 0); carry != 0 {
		return api.ErrOverflow
	}
	return api.OK
}

// contents returns the sets of keys of a window, each with values that differ.
func contents(first uint64) []plain {
	var list []plain
	for set := range 1 << width {
		w := plain{}
		for i := range uint64(width) {
			if set>>i&1 == 1 {
				w[first+i] = 10 * (i + 1)
			}
		}
		list = append(list, w)
	}
	return list
}

// eachContents calls f with the contents of all windows, and with the first keys of these.
func eachContents(f func(first uint64, w plain)) {
	for _, first := range windows {
		for _, w := range contents(first) {
			f(first, w)
		}
	}
}

// keys returns the keys of a window and those beside it, which at the ends of the keys are at the other end.
func keys(first uint64) []uint64 {
	var list []uint64
	for i := range uint64(width + 2) {
		list = append(list, first+i-1)
	}
	return list
}

// spans returns the ranges with ends in a window and some greater ones, those that are not valid as well.
func spans(first uint64) []api.Span {
	list := []api.Span{r(0, last), r(0, last-1), r(1, last), r(last, 0), r(0, first), r(first+width-1, last)}
	for lo := range uint64(width) {
		for hi := range uint64(width) {
			list = append(list, r(first+lo, first+hi))
		}
	}
	return list
}

// steps returns numbers to move a range of a window by: few, and those about the greatest that the range allows.
func steps(s api.Span) []uint64 {
	return []uint64{0, 1, 2, 3, 4, width, width + 1, 1 << 63, last - s.Hi - 1, last - s.Hi, last - s.Hi + 1, last - 1, last}
}

// build returns a map with pairs.
func build(t *testing.T, pairs ...api.Pair) *Map {
	t.Helper()
	m, e := New(pairs...)
	if m == nil || e != api.OK {
		t.Fatal("New:", pairs, e)
	}
	return m
}

// same looks whether a map has the pairs that it should have, by each of the functions that show them.
func same(t *testing.T, m *Map, want plain, what ...any) {
	t.Helper()
	l := want.list()
	if got := m.Pairs(); !slices.Equal(got, l) {
		t.Error("Pairs:", got, "and not", l, what)
	}
	if n := m.Len(); n != len(l) {
		t.Error("Len:", n, "and not", len(l), what)
	}
	for _, x := range l {
		if value, had := m.Get(x.Key); value != x.Value || !had {
			t.Error("Get:", x, value, had, what)
		}
	}
}

// P5.1: all orders in which the pairs of all sets of a few keys may come
func TestNew(t *testing.T) {
	eachContents(func(first uint64, w plain) {
		l := w.list()
		for range 3 {
			m := build(t, l...)
			same(t, m, w, "after New:", l)
			for _, key := range keys(first) {
				want, some := w[key]
				if value, had := m.Get(key); value != want || had != some {
					t.Error("Get:", l, key, value, had)
				}
			}
			slices.Reverse(l)
			if len(l) > 2 {
				l = append(l[1:], l[0])
			}
		}
	})
}

// P5.1
func TestNewInAnyOrder(t *testing.T) {
	l := []api.Pair{p(0, 5), p(1, 0), p(1<<63, 9), p(last, last)}
	want := plain{0: 5, 1: 0, 1 << 63: 9, last: last}
	tried := 0
	permute(l, 0, func() {
		tried++
		same(t, build(t, l...), want, "after New:", l)
	})
	if tried != 24 {
		t.Error("orders of four pairs:", tried)
	}
}

// permute calls f with each order of the pairs from a place on.
func permute(l []api.Pair, from int, f func()) {
	if from == len(l) {
		f()
		return
	}
	for i := from; i < len(l); i++ {
		l[from], l[i] = l[i], l[from]
		permute(l, from+1, f)
		l[from], l[i] = l[i], l[from]
	}
}

// P5.1: pairs with the same key, with other values and with the same one, wherever they come
func TestNewRefusesRepeatedKeys(t *testing.T) {
	for _, key := range []uint64{0, 1, 7, 1 << 63, last - 1, last} {
		for _, value := range []uint64{0, 1, key, last} {
			l := []api.Pair{p(key, 1), p(key, value), p(3, 30), p(1<<62, 4)}
			permute(l, 0, func() {
				if m, e := New(l...); m != nil || e != api.ErrHave {
					t.Error("New of pairs with the same key:", l, m, e)
				}
			})
		}
	}
	if m, e := New(p(1, 1), p(1, 1)); m != nil || e != api.ErrHave {
		t.Error("New of a repeated pair:", m, e)
	}
	if m, e := New(p(1, 7), p(2, 7), p(3, 7)); m == nil || e != api.OK {
		t.Error("New of pairs with the same value:", m, e)
	}
}

// P5.1
func TestNewOfNothing(t *testing.T) {
	same(t, build(t), plain{}, "after New()")
	same(t, build(t, []api.Pair{}...), plain{}, "after New of an empty slice")
	for _, key := range []uint64{0, 1, 1 << 63, last} {
		if value, had := build(t).Get(key); value != 0 || had {
			t.Error("Get from an empty map:", key, value, had)
		}
	}
}

// P5.1, with R3: the arguments stay as they are, and the map has memory of its own
func TestNewMemory(t *testing.T) {
	array := []api.Pair{p(5, 50), p(1, 10), p(9, 90), p(3, 30), p(7, 70)}
	before := slices.Clone(array)
	m := build(t, array[:4]...)
	if !slices.Equal(array, before) {
		t.Error("New changes its arguments:", array)
	}
	for i := range array {
		array[i] = p(2, 2)
	}
	want := plain{1: 10, 3: 30, 5: 50, 9: 90}
	same(t, m, want, "after its arguments were changed")
	kept := slices.Clone(array)
	m.Put(4, 40)
	m.Put(5, 51)
	m.Delete(1)
	if !slices.Equal(array, kept) {
		t.Error("operations change the arguments of New:", array)
	}
	if _, e := New(array...); e != api.ErrHave || !slices.Equal(array, kept) {
		t.Error("New changes its arguments with an error:", e, array)
	}
}

// P5.2
func TestPut(t *testing.T) {
	eachContents(func(first uint64, w plain) {
		for _, key := range keys(first) {
			for _, value := range []uint64{0, w[key], 77, last} {
				m := build(t, w.list()...)
				want, some := w[key]
				if old, had, e := m.Put(key, value); old != want || had != some || e != api.OK {
					t.Error("Put:", w, key, value, old, had, e)
				}
				same(t, m, w.with(key, value), "after Put:", w, key, value)
			}
		}
	})
}

// P5.2
func TestPutIfAbsent(t *testing.T) {
	eachContents(func(first uint64, w plain) {
		for _, key := range keys(first) {
			for _, value := range []uint64{0, w[key], 77, last} {
				m := build(t, w.list()...)
				want, some := w[key]
				after := w
				if !some {
					after = w.with(key, value)
				}
				if old, had, e := m.PutIfAbsent(key, value); old != want || had != some || e != api.OK {
					t.Error("PutIfAbsent:", w, key, value, old, had, e)
				}
				same(t, m, after, "after PutIfAbsent:", w, key, value)
			}
		}
	})
}

// P5.2
func TestDelete(t *testing.T) {
	eachContents(func(first uint64, w plain) {
		for _, key := range keys(first) {
			m := build(t, w.list()...)
			want, some := w[key]
			if old, had, e := m.Delete(key); old != want || had != some || e != api.OK {
				t.Error("Delete:", w, key, old, had, e)
			}
			after := w.without(r(key, key))
			same(t, m, after, "after Delete:", w, key)
			if old, had, e := m.Delete(key); old != 0 || had || e != api.OK {
				t.Error("Delete again:", w, key, old, had, e)
			}
			same(t, m, after, "after Delete again:", w, key)
		}
	})
}

// P5.2: an absent key is not set, whatever old is
func TestCompareAndSwap(t *testing.T) {
	eachContents(func(first uint64, w plain) {
		for _, key := range keys(first) {
			for _, old := range []uint64{0, w[key], w[key] + 1, w[key] - 1, last} {
				for _, value := range []uint64{0, old, 77} {
					m := build(t, w.list()...)
					want, some := w[key]
					swap := some && want == old
					after := w
					if swap {
						after = w.with(key, value)
					}
					if was, had, swapped, e := m.CompareAndSwap(key, old, value); was != want || had != some || swapped != swap || e != api.OK {
						t.Error("CompareAndSwap:", w, key, old, value, was, had, swapped, e)
					}
					same(t, m, after, "after CompareAndSwap:", w, key, old, value)
				}
			}
		}
	})
}

// P5.2: the value 0 is a value as any other one
func TestValueZero(t *testing.T) {
	m := build(t, p(5, 0))
	if value, had := m.Get(5); value != 0 || !had {
		t.Error("Get of the value 0:", value, had)
	}
	if old, had, e := m.PutIfAbsent(5, 1); old != 0 || !had || e != api.OK {
		t.Error("PutIfAbsent where the value 0 is:", old, had, e)
	}
	if was, had, swapped, e := m.CompareAndSwap(5, 0, 0); was != 0 || !had || !swapped || e != api.OK {
		t.Error("CompareAndSwap of 0 and 0:", was, had, swapped, e)
	}
	if was, had, swapped, e := m.CompareAndSwap(6, 0, 9); was != 0 || had || swapped || e != api.OK {
		t.Error("CompareAndSwap of 0 where nothing is:", was, had, swapped, e)
	}
	same(t, m, plain{5: 0}, "after operations that change nothing")
	if old, had, e := m.Delete(5); old != 0 || !had || e != api.OK {
		t.Error("Delete of the value 0:", old, had, e)
	}
	same(t, m, plain{}, "after Delete of the value 0")
}

// P5.3: a move that is refused changes nothing
func TestMove(t *testing.T) {
	eachContents(func(first uint64, w plain) {
		for _, s := range spans(first) {
			for _, by := range steps(s) {
				m := build(t, w.list()...)
				count, wrong, after := len(w.part(s)), refusal(s, by), w
				if wrong == api.OK {
					after = w.moved(s, by)
				} else {
					count = 0
				}
				if n, e := m.Move(s, by); n != count || e != wrong {
					t.Error("Move:", w, s, by, n, e, "and not", count, wrong)
				}
				same(t, m, after, "after Move:", w, s, by)
			}
		}
	})
}

// P5.3: whether keys near the ends of the range are present does not matter for the error
func TestMoveRefuses(t *testing.T) {
	for _, x := range []struct {
		s    api.Span
		by   uint64
		want api.Errno
	}{
		{r(4, 3), 1, api.ErrBad},
		{r(4, 3), 0, api.ErrBad},
		{r(last, 0), last, api.ErrBad},
		{r(last, last-1), 1, api.ErrBad},
		{r(3, 3), 0, api.ErrBad},
		{r(0, last), 0, api.ErrBad},
		{r(last, last), 0, api.ErrBad},
		{r(0, last), 1, api.ErrOverflow},
		{r(0, last), last, api.ErrOverflow},
		{r(last, last), 1, api.ErrOverflow},
		{r(0, last-1), 2, api.ErrOverflow},
		{r(0, 1), last, api.ErrOverflow},
		{r(1, 1), last, api.ErrOverflow},
		{r(1<<63, 1<<63), 1 << 63, api.ErrOverflow},
		{r(0, last-1), 1, api.OK},
		{r(0, 0), last, api.OK},
		{r(1<<63-1, 1<<63-1), 1 << 63, api.OK},
	} {
		for _, w := range []plain{{}, {3: 30}, {0: 1, 1: 2, 3: 30, 1<<63 - 1: 4, 1 << 63: 5, last - 1: 6, last: 7}} {
			m := build(t, w.list()...)
			n, e := m.Move(x.s, x.by)
			if e != x.want || e != api.OK && n != 0 {
				t.Error("Move:", w, x.s, x.by, n, e, "and not", x.want)
			}
			if e != api.OK {
				same(t, m, w, "after Move with an error:", w, x.s, x.by)
			}
		}
	}
}

// P5.3
func TestDeleteRange(t *testing.T) {
	eachContents(func(first uint64, w plain) {
		for _, s := range spans(first) {
			m := build(t, w.list()...)
			count, wrong, after := len(w.part(s)), api.OK, w.without(s)
			if s.Lo > s.Hi {
				count, wrong, after = 0, api.ErrBad, w
			}
			if n, e := m.DeleteRange(s); n != count || e != wrong {
				t.Error("DeleteRange:", w, s, n, e, "and not", count, wrong)
			}
			same(t, m, after, "after DeleteRange:", w, s)
		}
	})
}

// P5.4
func TestRangeAndNext(t *testing.T) {
	eachContents(func(first uint64, w plain) {
		m := build(t, w.list()...)
		for _, s := range spans(first) {
			want, wrong := w.part(s), api.OK
			if s.Lo > s.Hi {
				want, wrong = nil, api.ErrBad
			}
			if l, e := m.Range(s); !slices.Equal(l, want) || e != wrong {
				t.Error("Range:", w, s, l, e, "and not", want, wrong)
			}
			next := p(0, 0)
			if len(want) > 0 {
				next = want[0]
			}
			if x, some, e := m.Next(s); x != next || some != (len(want) > 0) || e != wrong {
				t.Error("Next:", w, s, x, some, e, "and not", next, wrong)
			}
		}
		same(t, m, w, "after Range and Next")
	})
}

// P5.4, with R3: results are memory of their own, and stay as they are
func TestResultsMemory(t *testing.T) {
	w := plain{1: 10, 3: 30, 5: 50, 7: 70}
	m := build(t, w.list()...)
	lists := func() [][]api.Pair {
		all, e := m.Range(r(0, last))
		some, e2 := m.Range(r(2, 6))
		none, e3 := m.Range(r(4, 4))
		if e != api.OK || e2 != api.OK || e3 != api.OK {
			t.Fatal("Range:", e, e2, e3)
		}
		return [][]api.Pair{m.Pairs(), all, some, none}
	}
	for _, l := range lists() {
		for i := range l {
			l[i] = p(99, 99)
		}
		_ = append(l, p(98, 98))
		same(t, m, w, "after its results were changed")
	}
	before := lists()
	kept := lists()
	m.Put(3, 31)
	m.Put(4, 40)
	m.Move(r(4, 7), 1)
	m.Delete(1)
	m.DeleteRange(r(0, 5))
	for i := range kept {
		if !slices.Equal(before[i], kept[i]) {
			t.Error("operations change results that were returned before:", before[i], kept[i])
		}
	}
}

// everyOperation calls f with a name and a call that changes the pairs 1:10, 3:30, 5:50, for each operation that changes a map.
func everyOperation(f func(name string, call func(m *Map))) {
	f("Put of a key", func(m *Map) { m.Put(3, 31) })
	f("Put of a new key", func(m *Map) { m.Put(2, 20) })
	f("PutIfAbsent", func(m *Map) { m.PutIfAbsent(4, 40) })
	f("Delete", func(m *Map) { m.Delete(1) })
	f("CompareAndSwap", func(m *Map) { m.CompareAndSwap(5, 50, 51) })
	f("Move", func(m *Map) { m.Move(r(1, 3), 2) })
	f("DeleteRange", func(m *Map) { m.DeleteRange(r(2, 9)) })
}

// P5.5
func TestCopy(t *testing.T) {
	eachContents(func(first uint64, w plain) {
		m := build(t, w.list()...)
		c := m.Copy()
		if c == nil || c == m {
			t.Fatal("Copy returns no other map:", w)
		}
		same(t, c, w, "after Copy")
	})
	var none *Map
	if c := none.Copy(); c != nil {
		t.Error("Copy of nil:", c)
	}
}

// P5.5: what is done to one of two copies is not done to the other one
func TestCopyIsIndependent(t *testing.T) {
	w := plain{1: 10, 3: 30, 5: 50}
	everyOperation(func(name string, call func(m *Map)) {
		m := build(t, w.list()...)
		// A map that has grown and shrunk has room behind its pairs, which a copy must not share.
		m.Put(8, 80)
		m.Put(9, 90)
		m.DeleteRange(r(8, 9))
		c := m.Copy()
		call(c)
		same(t, m, w, "after a change of its copy:", name)
		if m.Equal(c) || c.Equal(m) {
			t.Error("a copy is equal after a change:", name)
		}
		changed := c.Pairs()
		call(m)
		call(m)
		if !slices.Equal(c.Pairs(), changed) {
			t.Error("a copy was changed with the map:", name)
		}
	})
	m := build(t, p(1, 10))
	c := m.Copy()
	m.Put(2, 20)
	c.Put(2, 21)
	same(t, m, plain{1: 10, 2: 20}, "after Put to both")
	same(t, c, plain{1: 10, 2: 21}, "after Put to both")
}

// P5.5: all pairs of maps of a window, and maps that differ in a value
func TestEqual(t *testing.T) {
	for _, first := range windows {
		all := contents(first)
		for _, w := range contents(first) {
			for key := range w {
				all = append(all, w.with(key, 77))
			}
		}
		for _, a := range all {
			m := build(t, a.list()...)
			for _, b := range all {
				l := b.list()
				slices.Reverse(l)
				if m.Equal(build(t, l...)) != maps.Equal(a, b) {
					t.Error("Equal:", a, b)
				}
			}
		}
	}
}

// P5.5
func TestEqualOfNil(t *testing.T) {
	var none *Map
	for _, m := range []*Map{build(t), build(t, p(1, 10)), build(t, p(0, 0))} {
		if m.Equal(nil) || m.Equal(none) || none.Equal(m) {
			t.Error("Equal of a map and nil:", m.Pairs())
		}
		if !m.Equal(m) || !m.Equal(m.Copy()) {
			t.Error("Equal of a map and itself:", m.Pairs())
		}
	}
	if !none.Equal(nil) || !none.Equal(none) {
		t.Error("Equal of nil and nil")
	}
}

// P5.5: how a map came to its pairs does not matter
func TestEqualOfAnyPast(t *testing.T) {
	m := build(t)
	for key := range uint64(100) {
		m.Put(99-key, key)
	}
	m.DeleteRange(r(2, 99))
	if n := build(t, p(0, 99), p(1, 98)); !m.Equal(n) || !n.Equal(m) {
		t.Error("Equal of maps with other pasts:", m.Pairs())
	}
	m.DeleteRange(r(0, 1))
	if n := build(t); !m.Equal(n) || !n.Equal(m) {
		t.Error("Equal of empty maps:", m.Pairs())
	}
}

// P5.1 to P5.5, with R5: the methods of a nil map
func TestNil(t *testing.T) {
	var m *Map
	if value, had := m.Get(0); value != 0 || had {
		t.Error("Get:", value, had)
	}
	if old, had, e := m.Put(1, 2); old != 0 || had || e != api.ErrNil {
		t.Error("Put:", old, had, e)
	}
	if old, had, e := m.PutIfAbsent(1, 2); old != 0 || had || e != api.ErrNil {
		t.Error("PutIfAbsent:", old, had, e)
	}
	if old, had, e := m.Delete(1); old != 0 || had || e != api.ErrNil {
		t.Error("Delete:", old, had, e)
	}
	if was, had, swapped, e := m.CompareAndSwap(1, 0, 2); was != 0 || had || swapped || e != api.ErrNil {
		t.Error("CompareAndSwap:", was, had, swapped, e)
	}
	if m.Len() != 0 || len(m.Pairs()) != 0 {
		t.Error("Len, Pairs:", m.Len(), m.Pairs())
	}
	// ErrNil comes before the errors of the other arguments.
	for _, s := range []api.Span{r(0, 9), r(0, last), r(9, 0)} {
		for _, by := range []uint64{0, 1, last} {
			if n, e := m.Move(s, by); n != 0 || e != api.ErrNil {
				t.Error("Move:", s, by, n, e)
			}
		}
		if n, e := m.DeleteRange(s); n != 0 || e != api.ErrNil {
			t.Error("DeleteRange:", s, n, e)
		}
		if l, e := m.Range(s); len(l) != 0 || e != api.ErrNil {
			t.Error("Range:", s, l, e)
		}
		if x, some, e := m.Next(s); x != p(0, 0) || some || e != api.ErrNil {
			t.Error("Next:", s, x, some, e)
		}
	}
}

// unaffected looks whether two maps have the same value, or none, for each key of a list and for the keys of both, but those of some ranges.
func unaffected(t *testing.T, before, after *Map, list []uint64, named []api.Span, what string) {
	t.Helper()
	for _, x := range slices.Concat(before.Pairs(), after.Pairs()) {
		list = append(list, x.Key)
	}
	for _, key := range list {
		if slices.ContainsFunc(named, func(s api.Span) bool { return s.Lo <= key && key <= s.Hi }) {
			continue
		}
		value, had := before.Get(key)
		if value2, had2 := after.Get(key); value2 != value || had2 != had {
			t.Error(what, "affects another key:", before.Pairs(), named, key, after.Pairs())
		}
	}
}

// P5.6
func TestOtherKeysAreNotAffectedByAKey(t *testing.T) {
	eachContents(func(first uint64, w plain) {
		before := build(t, w.list()...)
		for _, key := range keys(first) {
			for name, call := range map[string]func(m *Map){
				"Put":            func(m *Map) { m.Put(key, 77) },
				"PutIfAbsent":    func(m *Map) { m.PutIfAbsent(key, 77) },
				"Delete":         func(m *Map) { m.Delete(key) },
				"CompareAndSwap": func(m *Map) { m.CompareAndSwap(key, w[key], 77) },
			} {
				after := before.Copy()
				call(after)
				unaffected(t, before, after, keys(first), []api.Span{r(key, key)}, name)
			}
		}
	})
}

// P5.6
func TestOtherKeysAreNotAffectedByARange(t *testing.T) {
	eachContents(func(first uint64, w plain) {
		before := build(t, w.list()...)
		for _, s := range spans(first) {
			after := before.Copy()
			if _, e := after.DeleteRange(s); e != api.OK {
				continue
			}
			unaffected(t, before, after, keys(first), []api.Span{s}, "DeleteRange")
			for _, by := range steps(s) {
				after := before.Copy()
				if _, e := after.Move(s, by); e != api.OK {
					continue
				}
				unaffected(t, before, after, keys(first), []api.Span{s, r(s.Lo+by, s.Hi+by)}, "Move")
			}
		}
	})
}

// P5.7: which keys are present after a move, and with which values
func TestMoveKeyByKey(t *testing.T) {
	tried := 0
	eachContents(func(first uint64, w plain) {
		for _, s := range spans(first) {
			for _, by := range steps(s) {
				m := build(t, w.list()...)
				if _, e := m.Move(s, by); e != api.OK {
					continue
				}
				tried++
				list := keys(first)
				for _, key := range keys(first) {
					list = append(list, key+by)
				}
				for _, key := range list {
					// A key less than by has no key that is moved to it, and the difference wraps around.
					want, some := w[key-by]
					from := key >= by && s.Lo <= key-by && key-by <= s.Hi
					if !from || !some {
						want, some = w[key]
						some = some && !(s.Lo <= key && key <= s.Hi)
					}
					if value, had := m.Get(key); had != some || some && value != want {
						t.Error("a key after Move:", w, s, by, key, value, had)
					}
				}
			}
		}
	})
	if tried < 1000 {
		t.Error("too few moves:", tried)
	}
}

// P5.7: moving in two parts leaves the pairs of the range where moving at once leaves them
func TestMoveTwice(t *testing.T) {
	tried := 0
	eachContents(func(first uint64, w plain) {
		for _, s := range spans(first) {
			for _, a := range []uint64{1, 2, 3, width} {
				for _, b := range []uint64{1, 2, 4, width} {
					once, twice := build(t, w.list()...), build(t, w.list()...)
					n, e := once.Move(s, a+b)
					if e != api.OK {
						continue
					}
					tried++
					if n2, e := twice.Move(s, a); n2 != n || e != api.OK {
						t.Error("Move, the first part:", w, s, a, n2, e)
					}
					if n2, e := twice.Move(r(s.Lo+a, s.Hi+a), b); n2 < n || e != api.OK {
						t.Error("Move, the second part:", w, s, a, b, n2, e)
					}
					for _, x := range w.part(s) {
						value, had := once.Get(x.Key + a + b)
						value2, had2 := twice.Get(x.Key + a + b)
						if value != x.Value || !had || value2 != x.Value || !had2 {
							t.Error("Move in two parts:", w, s, a, b, x, value, had, value2, had2)
						}
					}
				}
			}
		}
	})
	if tried < 1000 {
		t.Error("too few moves:", tried)
	}
}

// P5.7: the second part of a move may take a pair with it that moving at once leaves
func TestMoveTwiceTakesOthers(t *testing.T) {
	once, twice := build(t, p(1, 10), p(3, 30)), build(t, p(1, 10), p(3, 30))
	once.Move(r(1, 2), 4)
	same(t, once, plain{3: 30, 5: 10}, "after Move by 4")
	twice.Move(r(1, 2), 2)
	twice.Move(r(3, 4), 2)
	same(t, twice, plain{5: 10}, "after Move by 2 and 2: 3 was replaced")
	once, twice = build(t, p(1, 10), p(4, 40)), build(t, p(1, 10), p(4, 40))
	once.Move(r(1, 2), 4)
	same(t, once, plain{4: 40, 5: 10}, "after Move by 4")
	twice.Move(r(1, 2), 2)
	twice.Move(r(3, 4), 2)
	same(t, twice, plain{5: 10, 6: 40}, "after Move by 2 and 2: 4 was moved")
}

// P5.8
func TestDeleteAndPutRestore(t *testing.T) {
	eachContents(func(first uint64, w plain) {
		before := build(t, w.list()...)
		for _, key := range keys(first) {
			m := before.Copy()
			if old, had, e := m.Delete(key); had && e == api.OK {
				if _, had, e := m.Put(key, old); had || e != api.OK {
					t.Error("Put after Delete:", w, key, had, e)
				}
			} else {
				m.Put(key, 77)
				if old, had, e := m.Delete(key); old != 77 || !had || e != api.OK {
					t.Error("Delete after Put:", w, key, old, had, e)
				}
			}
			if !m.Equal(before) {
				t.Error("Delete and Put do not restore the map:", w, key, m.Pairs())
			}
		}
	})
}

// P5.8
func TestDeleteRangeRemovesWhatRangeShows(t *testing.T) {
	eachContents(func(first uint64, w plain) {
		for _, s := range spans(first) {
			m := build(t, w.list()...)
			shown, e := m.Range(s)
			if n, e2 := m.DeleteRange(s); n != len(shown) || e != e2 {
				t.Error("DeleteRange and Range:", w, s, n, e2, shown, e)
			}
			for _, x := range shown {
				if _, had := m.Get(x.Key); had {
					t.Error("DeleteRange leaves a pair that Range shows:", w, s, x)
				}
				m.Put(x.Key, x.Value)
			}
			same(t, m, w, "after DeleteRange, and Put of what Range showed:", s)
		}
	})
}

// P5.8: all keys in two and in three parts
func TestPartitionsShowPairs(t *testing.T) {
	eachContents(func(first uint64, w plain) {
		m := build(t, w.list()...)
		cuts := keys(first)
		slices.Sort(cuts)
		for i, a := range cuts {
			for _, b := range cuts[i:] {
				var parts []api.Span
				from := uint64(0)
				for _, cut := range []uint64{a, b} {
					if cut > from {
						parts = append(parts, r(from, cut-1))
						from = cut
					}
				}
				var shown []api.Pair
				for _, s := range append(parts, r(from, last)) {
					l, e := m.Range(s)
					if e != api.OK {
						t.Error("Range:", s, e)
					}
					shown = append(shown, l...)
				}
				if !slices.Equal(shown, m.Pairs()) {
					t.Error("the ranges of a partition:", w, a, b, shown)
				}
			}
		}
	})
}

// P5.1 to P5.5: a long life of a map, with many pairs, in which each operation follows each other one
func TestManyOperations(t *testing.T) {
	m, w := build(t), plain{}
	x := uint64(1)
	draw := func(n uint64) uint64 {
		x = x*6364136223846793005 + 1442695040888963407
		return (x ^ x>>29) >> 20 % n
	}
	for i := range 20000 {
		key, value := draw(300), draw(5)
		s := r(key, key+draw(12))
		want, some := w[key]
		switch draw(8) {
		case 0, 1, 2:
			m.Put(key, value)
			w[key] = value
		case 3:
			m.PutIfAbsent(key, value)
			if !some {
				w[key] = value
			}
		case 4:
			m.Delete(key)
			delete(w, key)
		case 5:
			m.CompareAndSwap(key, value, value+1)
			if some && want == value {
				w[key] = value + 1
			}
		case 6:
			by := 1 + draw(20)
			m.Move(s, by)
			w = w.moved(s, by)
		case 7:
			m.DeleteRange(s)
			w = w.without(s)
		}
		if i%20 == 0 {
			same(t, m, w, "after operations:", i)
		}
		if l, e := m.Range(s); !slices.Equal(l, w.part(s)) || e != api.OK {
			t.Fatal("Range after operations:", i, s, l, e)
		}
	}
	if m.Len() < 20 {
		t.Error("the map stays small:", m.Len())
	}
}

// P5.1, P5.3: maps with many pairs that come in no order, and moves of half of them
func TestManyPairs(t *testing.T) {
	const n = 100003 // a prime, so that the products below are all keys less than it
	var l []api.Pair
	for i := range uint64(n) {
		l = append(l, p(i*40009%n*2, i))
	}
	m := build(t, l...)
	slices.SortFunc(l, func(a, b api.Pair) int { return cmp.Compare(a.Key, b.Key) })
	if !slices.Equal(m.Pairs(), l) {
		t.Error("Pairs of many")
	}
	// The keys are even, so that a move by an odd number replaces none and one by an even number as many as it can.
	if count, e := m.Move(r(0, n-1), n); count != (n+1)/2 || e != api.OK || m.Len() != n {
		t.Error("Move among the other pairs:", count, e, m.Len())
	}
	if count, e := m.Move(r(n, 2*n-1), 1); count != n || e != api.OK || m.Len() != n {
		t.Error("Move of all:", count, e, m.Len())
	}
	m = build(t, l...)
	if count, e := m.Move(r(0, n-1), n-1); count != (n+1)/2 || e != api.OK || m.Len() != (n+1)/2 {
		t.Error("Move onto the other pairs:", count, e, m.Len())
	}
	if count, e := m.DeleteRange(r(0, last)); count != (n+1)/2 || e != api.OK || m.Len() != 0 {
		t.Error("DeleteRange of all:", count, e, m.Len())
	}
}

// P5.1, P5.2: the examples of the chapter
func TestExamplesOfOneKey(t *testing.T) {
	m := build(t, p(3, 30), p(1, 10))
	if l := m.Pairs(); !slices.Equal(l, []api.Pair{p(1, 10), p(3, 30)}) {
		t.Error("New(3:30, 1:10):", l)
	}
	if m, e := New(p(1, 1), p(1, 2)); m != nil || e != api.ErrHave {
		t.Error("New(1:1, 1:2):", m, e)
	}
	if old, had, e := m.Put(2, 20); old != 0 || had || e != api.OK {
		t.Error("Put(2, 20):", old, had, e)
	}
	if old, had, e := m.Put(2, 21); old != 20 || !had || e != api.OK {
		t.Error("Put(2, 21):", old, had, e)
	}
	if old, had, e := m.PutIfAbsent(2, 22); old != 21 || !had || e != api.OK {
		t.Error("PutIfAbsent(2, 22):", old, had, e)
	}
	if value, had := m.Get(2); value != 21 || !had {
		t.Error("Get(2):", value, had)
	}
	if was, had, swapped, e := m.CompareAndSwap(2, 20, 9); was != 21 || !had || swapped || e != api.OK {
		t.Error("CompareAndSwap(2, 20, 9):", was, had, swapped, e)
	}
	if was, had, swapped, e := m.CompareAndSwap(2, 21, 9); was != 21 || !had || !swapped || e != api.OK {
		t.Error("CompareAndSwap(2, 21, 9):", was, had, swapped, e)
	}
	if was, had, swapped, e := m.CompareAndSwap(5, 0, 1); was != 0 || had || swapped || e != api.OK {
		t.Error("CompareAndSwap(5, 0, 1):", was, had, swapped, e)
	}
}

// P5.3: the examples of the chapter
func TestExamplesOfMove(t *testing.T) {
	m := build(t, p(1, 10), p(2, 20), p(3, 30))
	if n, e := m.Move(r(1, 2), 1); n != 2 || e != api.OK {
		t.Error("Move(1-2, 1):", n, e)
	}
	same(t, m, plain{2: 10, 3: 20}, "after Move(1-2, 1)")
	m = build(t, p(1, 10), p(3, 30))
	if n, e := m.Move(r(1, 1), 2); n != 1 || e != api.OK {
		t.Error("Move(1-1, 2):", n, e)
	}
	same(t, m, plain{3: 10}, "after Move(1-1, 2)")
	if n, e := m.Move(r(3, 3), 1<<64-1); n != 0 || e != api.ErrOverflow {
		t.Error("Move(3-3, 2^64 - 1):", n, e)
	}
	if n, e := m.Move(r(3, 3), 0); n != 0 || e != api.ErrBad {
		t.Error("Move(3-3, 0):", n, e)
	}
	if n, e := m.Move(r(4, 3), 1); n != 0 || e != api.ErrBad {
		t.Error("Move(4-3, 1):", n, e)
	}
}

// P5.3, P5.4: the examples of the chapter
func TestExamplesOfRanges(t *testing.T) {
	m := build(t, p(1, 10), p(5, 50), p(9, 90))
	if l, e := m.Range(r(2, 9)); !slices.Equal(l, []api.Pair{p(5, 50), p(9, 90)}) || e != api.OK {
		t.Error("Range(2-9):", l, e)
	}
	if x, some, e := m.Next(r(2, 9)); x != p(5, 50) || !some || e != api.OK {
		t.Error("Next(2-9):", x, some, e)
	}
	if x, some, e := m.Next(r(6, 8)); x != p(0, 0) || some || e != api.OK {
		t.Error("Next(6-8):", x, some, e)
	}
	if n, e := m.DeleteRange(r(0, 5)); n != 2 || e != api.OK {
		t.Error("DeleteRange(0-5):", n, e)
	}
	if n := m.Len(); n != 1 {
		t.Error("Len:", n)
	}
}
