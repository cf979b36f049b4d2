package span

import (
	"math"
	"math/bits"
	"slices"
	"testing"

	"leapfrog/api"
)

const last = math.MaxUint64

// width is the number of keys of a window.
const width = 6

// windows are the first keys of the windows in which all ranges are tried: at both ends of the keys and in between.
var windows = []uint64{0, 100, last - width + 1}

// edges are ends of ranges: ordinary ones and those near the ends of the keys.
var edges = []uint64{0, 1, 2, 3, 5, 9, 1<<63 - 1, 1 << 63, 1<<63 + 1, last - 2, last - 1, last}

// r returns a range.
func r(lo, hi uint64) api.Span {
	return api.Span{Lo: lo, Hi: hi}
}

// within returns the ranges with ends in a window, those that are not valid as well.
func within(first uint64) []api.Span {
	var list []api.Span
	for lo := range uint64(width) {
		for hi := range uint64(width) {
			list = append(list, r(first+lo, first+hi))
		}
	}
	return list
}

// between returns the ranges whose ends are edges, those that are not valid as well.
func between() []api.Span {
	var list []api.Span
	for _, lo := range edges {
		for _, hi := range edges {
			list = append(list, r(lo, hi))
		}
	}
	return list
}

// valid returns the valid ranges of a list.
func valid(list []api.Span) []api.Span {
	return slices.DeleteFunc(slices.Clone(list), func(s api.Span) bool { return s.Lo > s.Hi })
}

// invalid returns ranges that are not valid.
func invalid() []api.Span {
	return []api.Span{r(2, 1), r(1, 0), r(5, 3), r(last, 0), r(last, last-1), r(1<<63, 1<<63-1)}
}

// groups returns the ranges of each window, and those whose ends are edges.
func groups() [][]api.Span {
	list := [][]api.Span{between()}
	for _, first := range windows {
		list = append(list, within(first))
	}
	return list
}

// lists calls f with all lists of at most three valid ranges of a window.
func lists(first uint64, f func(l []api.Span)) {
	f(nil)
	all := valid(within(first))
	for _, a := range all {
		f([]api.Span{a})
		for _, b := range all {
			f([]api.Span{a, b})
			for _, c := range all {
				f([]api.Span{a, b, c})
			}
		}
	}
}

// keys returns the keys of a window that ranges have, as a set of bits.
func keys(first uint64, l ...api.Span) uint {
	set := uint(0)
	for _, s := range l {
		for i := range uint64(width) {
			if s.Lo <= first+i && first+i <= s.Hi {
				set |= 1 << i
			}
		}
	}
	return set
}

// common reports whether two valid ranges have a key in common: if so, the greater Lo is one.
func common(a, b api.Span) bool {
	lo := a.Lo
	if b.Lo > lo {
		lo = b.Lo
	}
	return lo <= a.Hi && lo <= b.Hi
}

// touch is what the document says of two valid ranges that touch.
func touch(a, b api.Span) bool {
	return common(a, b) || a.Hi != last && a.Hi+1 == b.Lo || b.Hi != last && b.Hi+1 == a.Lo
}

// normal reports whether ranges are valid and ascend, and no two of them touch.
func normal(l []api.Span) bool {
	for i, s := range l {
		if s.Lo > s.Hi {
			return false
		}
		for _, before := range l[:i] {
			if before.Lo >= s.Lo || touch(before, s) {
				return false
			}
		}
	}
	return true
}

// normalize returns what Normalize returns for valid ranges.
func normalize(t *testing.T, l ...api.Span) []api.Span {
	t.Helper()
	n, e := Normalize(l...)
	if e != api.OK {
		t.Fatal("Normalize:", l, e)
	}
	return n
}

// P2.1
func TestCheckAndHas(t *testing.T) {
	for _, list := range groups() {
		for _, s := range list {
			want := api.OK
			if s.Lo > s.Hi {
				want = api.ErrBad
			}
			if e := Check(s); e != want {
				t.Error("Check:", s, e)
			}
			for _, key := range append(slices.Clone(edges), s.Lo-1, s.Lo, s.Lo+1, s.Hi-1, s.Hi, s.Hi+1) {
				if Has(s, key) != (s.Lo <= key && key <= s.Hi) {
					t.Error("Has:", s, key)
				}
			}
		}
	}
}

// P2.2
func TestOverlapAndMeetKeyByKey(t *testing.T) {
	for _, first := range windows {
		for _, a := range within(first) {
			for _, b := range within(first) {
				both := keys(first, a) & keys(first, b)
				if Overlap(a, b) != (both != 0) {
					t.Error("Overlap:", a, b)
				}
				m, some := Meet(a, b)
				if some != (both != 0) || some && keys(first, m) != both || some && m.Lo > m.Hi {
					t.Error("Meet:", a, b, m, some)
				}
				if !some && m != r(0, 0) {
					t.Error("Meet of ranges without a common key:", a, b, m)
				}
			}
		}
	}
}

// P2.2
func TestOverlapAndMeetOfAnyRanges(t *testing.T) {
	for _, a := range between() {
		for _, b := range between() {
			want, some := r(0, 0), false
			if a.Lo <= a.Hi && b.Lo <= b.Hi && common(a, b) {
				want, some = r(max(a.Lo, b.Lo), min(a.Hi, b.Hi)), true
			}
			if Overlap(a, b) != some {
				t.Error("Overlap:", a, b)
			}
			if m, ok := Meet(a, b); m != want || ok != some {
				t.Error("Meet:", a, b, m, ok)
			}
		}
	}
}

// P2.3
func TestHull(t *testing.T) {
	for _, list := range groups() {
		for _, a := range list {
			for _, b := range list {
				want, err := r(min(a.Lo, b.Lo), max(a.Hi, b.Hi)), api.OK
				if a.Lo > a.Hi || b.Lo > b.Hi {
					want, err = r(0, 0), api.ErrBad
				}
				if h, e := Hull(a, b); h != want || e != err {
					t.Error("Hull:", a, b, h, e)
				}
			}
		}
	}
}

// P2.3
func TestShift(t *testing.T) {
	for _, list := range groups() {
		for _, s := range list {
			for _, by := range append(slices.Clone(edges), last-s.Hi, last-s.Hi+1, last-s.Lo, last-s.Lo+1) {
				want, err := r(s.Lo+by, s.Hi+by), api.OK
				_, carry := bits.Add64(s.Hi, by, 0)
				if carry != 0 {
					want, err = r(0, 0), api.ErrOverflow
				}
				if s.Lo > s.Hi {
					want, err = r(0, 0), api.ErrBad
				}
				if m, e := Shift(s, by); m != want || e != err {
					t.Error("Shift:", s, by, m, e)
				}
			}
		}
	}
}

// P2.4
func TestNormalizeKeyByKey(t *testing.T) {
	for _, first := range windows {
		lists(first, func(l []api.Span) {
			n := normalize(t, l...)
			if !normal(n) || keys(first, n...) != keys(first, l...) {
				t.Error("Normalize:", l, n)
			}
			for _, s := range n {
				// All ends lie in the window, so that no key outside it was added.
				if s.Lo < first || s.Hi > first+width-1 {
					t.Error("Normalize adds keys:", l, n)
				}
			}
		})
	}
}

// P2.4
func TestNormalizeTwoRanges(t *testing.T) {
	all := valid(between())
	for _, a := range all {
		for _, b := range all {
			want := []api.Span{a, b}
			switch {
			case touch(a, b):
				want = []api.Span{r(min(a.Lo, b.Lo), max(a.Hi, b.Hi))}
			case b.Lo < a.Lo:
				want = []api.Span{b, a}
			}
			if n := normalize(t, a, b); !slices.Equal(n, want) {
				t.Error("Normalize:", a, b, n)
			}
		}
	}
}

// P2.4
func TestNormalizeManyRanges(t *testing.T) {
	var even, every []api.Span
	for i := range uint64(201) {
		// 80 and 201 have no common divisor, so that each number below 201 comes once.
		k := i * 80 % 201
		even = append(even, r(2*k, 2*k))
		every = append(every, r(k, k))
	}
	n := normalize(t, even...)
	if len(n) != 201 || !normal(n) || n[0] != r(0, 0) || n[200] != r(400, 400) {
		t.Error("Normalize of ranges with gaps:", n)
	}
	if n = normalize(t, every...); !slices.Equal(n, []api.Span{r(0, 200)}) {
		t.Error("Normalize of ranges without gaps:", n)
	}
	if n = normalize(t, append(even, r(0, last))...); !slices.Equal(n, []api.Span{r(0, last)}) {
		t.Error("Normalize with the range of all keys:", n)
	}
	// A long range ends after shorter ones that begin later.
	if n = normalize(t, r(3, 4), r(0, 9), r(1, 2), r(10, 10), r(12, 13)); !slices.Equal(n, []api.Span{r(0, 10), r(12, 13)}) {
		t.Error("Normalize of ranges within another one:", n)
	}
}

// P2.4: the last key and the first one do not touch
func TestNormalizeEndsOfKeys(t *testing.T) {
	for _, x := range []struct{ l, want []api.Span }{
		{[]api.Span{r(last, last), r(0, 0)}, []api.Span{r(0, 0), r(last, last)}},
		{[]api.Span{r(1, last), r(0, 0)}, []api.Span{r(0, last)}},
		{[]api.Span{r(last, last), r(0, last-1)}, []api.Span{r(0, last)}},
		{[]api.Span{r(last, last), r(0, last-2)}, []api.Span{r(0, last-2), r(last, last)}},
		{[]api.Span{r(0, last), r(last, last), r(0, 0)}, []api.Span{r(0, last)}},
	} {
		if n := normalize(t, x.l...); !slices.Equal(n, x.want) {
			t.Error("Normalize:", x.l, n)
		}
	}
}

// P2.4
func TestNormalizeInvalid(t *testing.T) {
	for _, bad := range invalid() {
		for _, l := range [][]api.Span{{bad}, {bad, r(0, 9)}, {r(0, 9), bad}, {r(0, last), bad, r(3, 4)}, {bad, bad}} {
			if n, e := Normalize(l...); len(n) != 0 || e != api.ErrBad {
				t.Error("Normalize of a range that is not valid:", l, n, e)
			}
		}
	}
}

// P2.4, with R3: arguments stay as they are, and the result is memory of its own
func TestNormalizeMemory(t *testing.T) {
	array := []api.Span{r(7, 9), r(1, 2), r(3, 4), r(8, 12), r(20, 30), r(5, 5)}
	before := slices.Clone(array)
	n := normalize(t, array[:4]...)
	if !slices.Equal(array, before) {
		t.Error("Normalize changes its arguments:", array)
	}
	if cap(n) != len(n) {
		t.Error("the result of Normalize is not cut off:", len(n), cap(n))
	}
	for i := range n {
		n[i] = r(77, 77)
	}
	_ = append(n, r(78, 78))
	if !slices.Equal(array, before) {
		t.Error("the result of Normalize shares memory with its arguments:", array)
	}
	if covered, e := Covers(r(7, 12), array[:4]...); !covered || e != api.OK || !slices.Equal(array, before) {
		t.Error("Covers changes its arguments:", covered, e, array)
	}
}

// P2.5
func TestCoversKeyByKey(t *testing.T) {
	for _, first := range windows {
		lists(first, func(l []api.Span) {
			have := keys(first, l...)
			for _, s := range valid(within(first)) {
				own := keys(first, s)
				if covered, e := Covers(s, l...); covered != (own&have == own) || e != api.OK {
					t.Error("Covers:", s, l, covered, e)
				}
			}
		})
	}
}

// P2.5
func TestCoversAllKeys(t *testing.T) {
	for _, x := range []struct {
		l    []api.Span
		want bool
	}{
		{[]api.Span{r(0, last)}, true},
		{[]api.Span{r(1<<63, last), r(0, 1<<63-1)}, true},
		{[]api.Span{r(1<<63+1, last), r(0, 1<<63-1)}, false},
		{[]api.Span{r(1, last)}, false},
		{[]api.Span{r(0, last-1)}, false},
		{nil, false},
	} {
		if covered, e := Covers(r(0, last), x.l...); covered != x.want || e != api.OK {
			t.Error("Covers of all keys:", x.l, covered, e)
		}
	}
}

// P2.5
func TestCoversInvalid(t *testing.T) {
	refused := func(s api.Span, l ...api.Span) {
		if covered, e := Covers(s, l...); covered || e != api.ErrBad {
			t.Error("Covers of a range that is not valid:", s, l, covered, e)
		}
	}
	for _, bad := range invalid() {
		refused(bad)
		refused(bad, r(0, last))
		refused(bad, bad)
		refused(r(3, 4), bad)
		refused(r(3, 4), r(0, last), bad)
		refused(r(3, 4), bad, r(0, last))
	}
}

// P2.5
func TestSize(t *testing.T) {
	for _, list := range groups() {
		for _, s := range list {
			want, every, err := s.Hi-s.Lo+1, false, api.OK
			if s == r(0, last) {
				want, every = 0, true
			}
			if s.Lo > s.Hi {
				want, every, err = 0, false, api.ErrBad
			}
			if n, all, e := Size(s); n != want || all != every || e != err {
				t.Error("Size:", s, n, all, e)
			}
		}
	}
	for _, first := range windows {
		for _, s := range valid(within(first)) {
			if n, all, e := Size(s); n != uint64(bits.OnesCount(keys(first, s))) || all || e != api.OK {
				t.Error("Size, key by key:", s, n, all, e)
			}
		}
	}
}

// P2.6
func TestNormalizeIsIdempotent(t *testing.T) {
	for _, first := range windows {
		lists(first, func(l []api.Span) {
			n := normalize(t, l...)
			if again := normalize(t, n...); !slices.Equal(again, n) {
				t.Error("Normalize of its result:", l, n, again)
			}
		})
	}
}

// P2.6
func TestNormalizeOrderAndRepetition(t *testing.T) {
	for _, first := range windows {
		lists(first, func(l []api.Span) {
			n := normalize(t, l...)
			if twice := normalize(t, append(slices.Clone(l), l...)...); !slices.Equal(twice, n) {
				t.Error("Normalize of repeated ranges:", l, n, twice)
			}
			// The lists come in all orders, so that comparing each with its reverse and one rotation reaches all permutations.
			back := slices.Clone(l)
			slices.Reverse(back)
			if other := normalize(t, back...); !slices.Equal(other, n) {
				t.Error("Normalize in the reverse order:", l, n, other)
			}
			if len(l) == 3 {
				if other := normalize(t, l[1], l[2], l[0], l[1]); !slices.Equal(other, n) {
					t.Error("Normalize in another order:", l, n, other)
				}
			}
		})
	}
}

// P2.6
func TestNormalizeCovers(t *testing.T) {
	for _, first := range windows {
		lists(first, func(l []api.Span) {
			n := normalize(t, l...)
			for _, s := range valid(within(first)) {
				contained := slices.ContainsFunc(n, func(m api.Span) bool { return m.Lo <= s.Lo && s.Hi <= m.Hi })
				if covered, e := Covers(s, n...); covered != contained || e != api.OK {
					t.Error("Covers by the result of Normalize:", s, l, n, covered, e)
				}
			}
		})
	}
}

// size returns the number of keys of a valid range that does not have all keys.
func size(t *testing.T, s api.Span) uint64 {
	t.Helper()
	n, all, e := Size(s)
	if all || e != api.OK {
		t.Fatal("Size:", s, n, all, e)
	}
	return n
}

// P2.7
func TestSizesAddUp(t *testing.T) {
	tried := 0
	for _, list := range groups() {
		for _, a := range valid(list) {
			for _, b := range valid(list) {
				h, e := Hull(a, b)
				if e != api.OK {
					t.Fatal("Hull:", a, b, e)
				}
				if !touch(a, b) || a == r(0, last) || b == r(0, last) || h == r(0, last) {
					continue
				}
				tried++
				inCommon := uint64(0)
				if m, some := Meet(a, b); some {
					inCommon = size(t, m)
				}
				// The sums may be greater than 2^64 - 1: they are equal with what is carried.
				sum, carry := bits.Add64(size(t, a), size(t, b), 0)
				sum2, carry2 := bits.Add64(size(t, h), inCommon, 0)
				if sum != sum2 || carry != carry2 {
					t.Error("sizes of two ranges, their hull and what they have in common:", a, b, h, inCommon)
				}
			}
		}
	}
	if tried < 1000 {
		t.Error("too few ranges that touch:", tried)
	}
}

// P2.8
func TestShiftTwice(t *testing.T) {
	for _, s := range valid(between()) {
		for _, a := range edges {
			for _, b := range edges {
				by, carry := bits.Add64(a, b, 0)
				if carry != 0 {
					continue
				}
				once, e := Shift(s, by)
				part, e2 := Shift(s, a)
				if e2 == api.OK {
					part, e2 = Shift(part, b)
				}
				if once != part || e != e2 {
					t.Error("Shift in two parts:", s, a, b, once, e, part, e2)
				}
			}
		}
	}
}

// P2.8
func TestShiftKeepsSizeAndMeet(t *testing.T) {
	all := valid(between())
	for _, a := range all {
		for _, by := range edges {
			a2, e := Shift(a, by)
			if e != api.OK {
				continue
			}
			n, every, e := Size(a)
			if n2, every2, e2 := Size(a2); n2 != n || every2 != every || e != api.OK || e2 != api.OK {
				t.Error("Size of a range that was shifted:", a, by, n, n2)
			}
			for _, b := range all {
				b2, e := Shift(b, by)
				if e != api.OK {
					continue
				}
				m, some := Meet(a, b)
				if some {
					m, e = Shift(m, by)
				}
				if m2, some2 := Meet(a2, b2); m2 != m || some2 != some || e != api.OK {
					t.Error("Meet of ranges that were shifted:", a, b, by, m, m2)
				}
			}
		}
	}
}

// P2.1, P2.2: the examples of the chapter
func TestExamplesOfTwoRanges(t *testing.T) {
	if Check(r(3, 3)) != api.OK || Check(r(4, 3)) != api.ErrBad || !Has(r(3, 5), 5) || Has(r(5, 3), 4) {
		t.Error("Check, Has")
	}
	if !Overlap(r(1, 4), r(4, 9)) || Overlap(r(1, 4), r(5, 9)) || Overlap(r(9, 1), r(0, 9)) {
		t.Error("Overlap")
	}
	if m, some := Meet(r(1, 6), r(4, 9)); m != r(4, 6) || !some {
		t.Error("Meet(1-6, 4-9):", m, some)
	}
	if m, some := Meet(r(1, 2), r(4, 9)); m != r(0, 0) || some {
		t.Error("Meet(1-2, 4-9):", m, some)
	}
}

// P2.3: the examples of the chapter
func TestExamplesOfHullAndShift(t *testing.T) {
	if h, e := Hull(r(1, 2), r(8, 9)); h != r(1, 9) || e != api.OK {
		t.Error("Hull(1-2, 8-9):", h, e)
	}
	for _, x := range []struct {
		s    api.Span
		by   uint64
		want api.Span
		e    api.Errno
	}{
		{r(3, 5), 4, r(7, 9), api.OK},
		{r(3, 5), 1<<64 - 5, r(0, 0), api.ErrOverflow},
		{r(0, 0), 1<<64 - 1, r(1<<64-1, 1<<64-1), api.OK},
	} {
		if s, e := Shift(x.s, x.by); s != x.want || e != x.e {
			t.Error("Shift:", x.s, x.by, s, e)
		}
	}
}

// P2.4, P2.5: the examples of the chapter
func TestExamplesOfLists(t *testing.T) {
	if n, e := Normalize(r(7, 9), r(1, 2), r(3, 4), r(8, 12)); !slices.Equal(n, []api.Span{r(1, 4), r(7, 12)}) || e != api.OK {
		t.Error("Normalize(7-9, 1-2, 3-4, 8-12):", n, e)
	}
	if n, e := Normalize(); len(n) != 0 || e != api.OK {
		t.Error("Normalize():", n, e)
	}
	if n, e := Normalize(r(1, 2), r(2, 1)); len(n) != 0 || e != api.ErrBad {
		t.Error("Normalize(1-2, 2-1):", n, e)
	}
	for _, x := range []struct {
		l    []api.Span
		want bool
	}{{[]api.Span{r(5, 9), r(0, 4)}, true}, {[]api.Span{r(0, 4), r(6, 9)}, false}, {nil, false}} {
		if covered, e := Covers(r(2, 9), x.l...); covered != x.want || e != api.OK {
			t.Error("Covers(2-9):", x.l, covered, e)
		}
	}
	for _, x := range []struct {
		s   api.Span
		n   uint64
		all bool
	}{{r(3, 5), 3, false}, {r(0, 1<<64-1), 0, true}, {r(1, 1<<64-1), 1<<64 - 1, false}} {
		if n, all, e := Size(x.s); n != x.n || all != x.all || e != api.OK {
			t.Error("Size:", x.s, n, all, e)
		}
	}
}
