package plan

import (
	"maps"
	"math"
	"math/bits"
	"slices"
	"testing"

	"leapfrog/api"
	"leapfrog/omap"
)

const last = math.MaxUint64

// width is the number of keys of a window.
const width = 5

// windows are the first keys of the windows in which all sets of keys are tried: at both ends of the keys and in between.
var windows = []uint64{0, 1<<63 - 2, last - width + 1}

// p returns a pair.
func p(key, value uint64) api.Pair {
	return api.Pair{Key: key, Value: value}
}

// r returns a range.
func r(lo, hi uint64) api.Span {
	return api.Span{Lo: lo, Hi: hi}
}

// born returns a change written as key: - > value.
func born(key, value uint64) api.Change {
	return api.Change{Key: key, Is: true, New: value}
}

// gone returns a change written as key: old > -.
func gone(key, old uint64) api.Change {
	return api.Change{Key: key, Was: true, Old: old}
}

// swap returns a change written as key: old > value.
func swap(key, old, value uint64) api.Change {
	return api.Change{Key: key, Was: true, Old: old, Is: true, New: value}
}

// first returns the plan of the chapter's first example.
func first() []api.Change {
	return []api.Change{gone(1, 10), swap(2, 20, 10), swap(3, 30, 20)}
}

// plain is a map as the document speaks of it.
type plain map[uint64]uint64

// list returns the pairs in ascending order of keys.
func (w plain) list() []api.Pair {
	var l []api.Pair
	for _, key := range slices.Sorted(maps.Keys(w)) {
		l = append(l, p(key, w[key]))
	}
	return l
}

// in reports whether a key is in a range.
func in(s api.Span, key uint64) bool {
	return s.Lo <= key && key <= s.Hi
}

// part returns the pairs with keys in a range, in ascending order of keys.
func (w plain) part(s api.Span) []api.Pair {
	return slices.DeleteFunc(w.list(), func(x api.Pair) bool { return !in(s, x.Key) })
}

// without returns the map without the keys of a range.
func (w plain) without(s api.Span) plain {
	rest := maps.Clone(w)
	maps.DeleteFunc(rest, func(key, _ uint64) bool { return in(s, key) })
	return rest
}

// moved returns the map after a range was moved: its pairs are taken out, and put back one by one.
func (w plain) moved(s api.Span, by uint64) plain {
	after := w.without(s)
	for _, x := range w.part(s) {
		after[x.Key+by] = x.Value
	}
	return after
}

// changes returns what leads from one map to another one, for these keys, in ascending order.
func changes(before, after plain, keys ...uint64) []api.Change {
	slices.Sort(keys)
	var l []api.Change
	for _, key := range slices.Compact(keys) {
		old, was := before[key]
		value, is := after[key]
		l = append(l, api.Change{Key: key, Was: was, Old: old, Is: is, New: value})
	}
	return l
}

// moving returns the plan of moving, by its definition: a change for each key of the range that is present, and for each key to which one of these is moved.
func moving(w plain, s api.Span, by uint64) []api.Change {
	var keys []uint64
	for _, x := range w.part(s) {
		keys = append(keys, x.Key, x.Key+by)
	}
	return changes(w, w.moved(s, by), keys...)
}

// deleting returns the plan of deleting, by its definition.
func deleting(w plain, s api.Span) []api.Change {
	var l []api.Change
	for _, x := range w.part(s) {
		l = append(l, gone(x.Key, x.Value))
	}
	return l
}

// refusal is the error that the document gives moving a range, if the pairs are ascending.
func refusal(s api.Span, by uint64) api.Errno {
	if s.Lo > s.Hi || by == 0 {
		return api.ErrBad
	}
	if _, carry := bits.Add64(s.Hi, by, 0); carry != 0 {
		return api.ErrOverflow
	}
	return api.OK
}

// eachContents calls f with the sets of keys of all windows, each with values that differ, and with the first keys of the windows.
func eachContents(f func(from uint64, w plain)) {
	for _, from := range windows {
		for set := range 1 << width {
			w := plain{}
			for i := range uint64(width) {
				if set>>i&1 == 1 {
					w[from+i] = 10 * (i + 1)
				}
			}
			f(from, w)
		}
	}
}

// spans returns the ranges with ends in a window and some greater ones, those that are not valid as well.
func spans(from uint64) []api.Span {
	list := []api.Span{r(0, last), r(0, last-1), r(1, last), r(last, 0), r(0, from), r(from+width-1, last)}
	for lo := range uint64(width) {
		for hi := range uint64(width) {
			list = append(list, r(from+lo, from+hi))
		}
	}
	return list
}

// steps returns numbers to move a range of a window by: few, and those about the greatest that the range allows.
func steps(s api.Span) []uint64 {
	return []uint64{0, 1, 2, 3, 4, width, width + 1, 1 << 63, last - s.Hi - 1, last - s.Hi, last - s.Hi + 1, last - 1, last}
}

// eachMove calls f with each range of a window and each number to move it by that is not refused, and with a map of that window.
func eachMove(f func(w plain, s api.Span, by uint64)) {
	eachContents(func(from uint64, w plain) {
		for _, s := range spans(from) {
			for _, by := range steps(s) {
				if refusal(s, by) == api.OK {
					f(w, s, by)
				}
			}
		}
	})
}

// triples are the keys of the plans that are tried one by one.
var triples = [][]uint64{{0, 1, 2}, {0, 1 << 63, last}, {last - 2, last - 1, last}}

// changesOf returns changes of a key, with few values; the value 0 is a value as any other one.
func changesOf(key uint64) []api.Change {
	return []api.Change{
		born(key, 0), born(key, 10),
		gone(key, 0), gone(key, 10),
		swap(key, 0, 10), swap(key, 10, 10), swap(key, 10, 20), swap(key, 10, 0),
	}
}

// plans returns all plans of these keys.
func plans(keys ...uint64) [][]api.Change {
	list := [][]api.Change{nil}
	for _, key := range keys {
		for _, l := range list {
			for _, c := range changesOf(key) {
				list = append(list, append(slices.Clip(l), c))
			}
		}
	}
	return list
}

// mapsOf returns the maps of these keys, with the values of changesOf.
func mapsOf(keys ...uint64) []plain {
	list := []plain{{}}
	for _, key := range keys {
		for _, w := range list {
			for _, value := range []uint64{0, 10, 20} {
				more := maps.Clone(w)
				more[key] = value
				list = append(list, more)
			}
		}
	}
	return list
}

// fits reports whether a plan fits a map, change by change.
func fits(w plain, l []api.Change) bool {
	for _, c := range l {
		value, had := w[c.Key]
		if had != c.Was || had && value != c.Old {
			return false
		}
	}
	return true
}

// after returns the map after the changes of a plan.
func after(w plain, l []api.Change) plain {
	w = maps.Clone(w)
	for _, c := range l {
		delete(w, c.Key)
		if c.Is {
			w[c.Key] = c.New
		}
	}
	return w
}

// unordered are pairs that are not ascending.
func unordered() [][]api.Pair {
	return [][]api.Pair{
		{p(2, 1), p(1, 1)},
		{p(1, 1), p(1, 1)},
		{p(1, 1), p(1, 2)},
		{p(0, 0), p(0, 0)},
		{p(last, 1), p(last, 1)},
		{p(last, 1), p(0, 1)},
		{p(1, 1), p(2, 2), p(2, 2)},
		{p(1, 1), p(3, 3), p(2, 2)},
		{p(5, 1), p(1, 1), p(2, 1), p(3, 1)},
		{p(1, 1), p(2, 1), p(3, 1), p(last, 1), p(1<<63, 1)},
	}
}

// planless are changes that are not a plan.
func planless() [][]api.Change {
	return [][]api.Change{
		{{Key: 1}},
		{{}},
		{{Key: 1, Old: 5}},
		{{Key: 1, Was: true, New: 5}},
		{{Key: 1, Is: true, Old: 5}},
		{gone(2, 1), born(2, 1)},
		{swap(2, 20, 10), gone(1, 10)},
		{born(last, 1), born(0, 1)},
		{gone(1, 10), {Key: 2}, swap(3, 30, 20)},
		{gone(1, 10), swap(2, 20, 10), swap(2, 20, 10)},
		{gone(1, 10), swap(2, 20, 10), {Key: 3, Was: true, Old: 30, New: 20}},
	}
}

// P6.1
func TestMove(t *testing.T) {
	eachContents(func(from uint64, w plain) {
		for _, s := range spans(from) {
			for _, by := range steps(s) {
				wrong := refusal(s, by)
				var want []api.Change
				if wrong == api.OK {
					want = moving(w, s, by)
				}
				if l, e := Move(w.list(), s, by); !slices.Equal(l, want) || e != wrong {
					t.Error("Move:", w, s, by, l, e, "and not", want, wrong)
				}
			}
		}
	})
}

// P6.1: a key that is replaced has a change, and so has one that keeps its value; one between the range and its goals has none
func TestMoveChanges(t *testing.T) {
	for _, x := range []struct {
		pairs []api.Pair
		s     api.Span
		by    uint64
		want  []api.Change
	}{
		{nil, r(0, 0), 1, nil},
		{[]api.Pair{}, r(0, last-1), 1, nil},
		{[]api.Pair{p(0, 0)}, r(0, 0), last, []api.Change{gone(0, 0), born(last, 0)}},
		{[]api.Pair{p(0, 0), p(last, 0)}, r(0, 0), last, []api.Change{gone(0, 0), swap(last, 0, 0)}},
		{[]api.Pair{p(1, 7), p(2, 7), p(3, 7)}, r(1, 3), 1, []api.Change{gone(1, 7), swap(2, 7, 7), swap(3, 7, 7), born(4, 7)}},
		{[]api.Pair{p(1, 10), p(4, 40), p(6, 60), p(9, 90)}, r(1, 4), 5, []api.Change{gone(1, 10), gone(4, 40), swap(6, 60, 10), swap(9, 90, 40)}},
		{[]api.Pair{p(1, 10), p(4, 40), p(5, 50), p(7, 70)}, r(1, 4), 5, []api.Change{gone(1, 10), gone(4, 40), born(6, 10), born(9, 40)}},
		{[]api.Pair{p(0, 1), p(2, 20), p(4, 40), p(9, 9)}, r(1, 5), 1, []api.Change{gone(2, 20), born(3, 20), gone(4, 40), born(5, 40)}},
		{[]api.Pair{p(0, 1), p(2, 20), p(9, 9)}, r(3, 8), 1, nil},
		{[]api.Pair{p(5, 50), p(7, 70)}, r(6, 6), 1, nil},
		{[]api.Pair{p(last-1, 5), p(last, 6)}, r(last-1, last-1), 1, []api.Change{gone(last-1, 5), swap(last, 6, 5)}},
	} {
		if l, e := Move(x.pairs, x.s, x.by); !slices.Equal(l, x.want) || e != api.OK {
			t.Error("Move:", x.pairs, x.s, x.by, l, e, "and not", x.want)
		}
	}
}

// P6.1: whether keys near the ends of the range are present does not matter for the error
func TestMoveRefuses(t *testing.T) {
	for _, x := range []struct {
		s    api.Span
		by   uint64
		want api.Errno
	}{
		{r(4, 3), 1, api.ErrBad},
		{r(4, 3), 0, api.ErrBad},
		{r(last, 0), last, api.ErrBad},
		{r(last, last-1), 1, api.ErrBad},
		{r(3, 3), 0, api.ErrBad},
		{r(0, last), 0, api.ErrBad},
		{r(last, last), 0, api.ErrBad},
		{r(0, last), 1, api.ErrOverflow},
		{r(last, last), 1, api.ErrOverflow},
		{r(0, last-1), 2, api.ErrOverflow},
		{r(1, 1), last, api.ErrOverflow},
		{r(1<<63, 1<<63), 1 << 63, api.ErrOverflow},
		{r(0, last-1), 1, api.OK},
		{r(0, 0), last, api.OK},
		{r(1<<63-1, 1<<63-1), 1 << 63, api.OK},
	} {
		for _, w := range []plain{{}, {3: 30}, {0: 1, 1: 2, 3: 30, 1<<63 - 1: 4, 1 << 63: 5, last - 1: 6, last: 7}} {
			l, e := Move(w.list(), x.s, x.by)
			if e != x.want || e != api.OK && len(l) != 0 {
				t.Error("Move:", w, x.s, x.by, l, e, "and not", x.want)
			}
		}
		// The error of the pairs comes before all others.
		for _, pairs := range unordered() {
			if l, e := Move(pairs, x.s, x.by); len(l) != 0 || e != api.ErrArg {
				t.Error("Move of pairs that are not ascending:", pairs, x.s, x.by, l, e)
			}
		}
	}
}

// P6.1
func TestDelete(t *testing.T) {
	eachContents(func(from uint64, w plain) {
		for _, s := range spans(from) {
			want, wrong := deleting(w, s), api.OK
			if s.Lo > s.Hi {
				want, wrong = nil, api.ErrBad
			}
			if l, e := Delete(w.list(), s); !slices.Equal(l, want) || e != wrong {
				t.Error("Delete:", w, s, l, e, "and not", want, wrong)
			}
		}
	})
}

// P6.1
func TestDeleteRefuses(t *testing.T) {
	for _, s := range []api.Span{r(0, 0), r(0, last), r(9, 9), r(last, last), r(4, 3), r(last, 0)} {
		for _, pairs := range unordered() {
			if l, e := Delete(pairs, s); len(l) != 0 || e != api.ErrArg {
				t.Error("Delete of pairs that are not ascending:", pairs, s, l, e)
			}
		}
		l, e := Delete(nil, s)
		if len(l) != 0 || (e == api.ErrBad) != (s.Lo > s.Hi) {
			t.Error("Delete of no pairs:", s, l, e)
		}
	}
}

// P6.2: all lists of at most three changes with few keys and values
func TestCheck(t *testing.T) {
	isPlan := func(l []api.Change) bool {
		for i, c := range l {
			if !c.Was && !c.Is || !c.Was && c.Old != 0 || !c.Is && c.New != 0 {
				return false
			}
			for _, before := range l[:i] {
				if before.Key >= c.Key {
					return false
				}
			}
		}
		return true
	}
	var all []api.Change
	for _, key := range []uint64{0, 1, last} {
		for flags := range 16 {
			c := api.Change{Key: key, Was: flags&1 != 0, Is: flags&2 != 0}
			if flags&4 != 0 {
				c.Old = last
			}
			if flags&8 != 0 {
				c.New = 1
			}
			all = append(all, c)
		}
	}
	found := 0
	look := func(l ...api.Change) {
		want := api.ErrArg
		if isPlan(l) {
			want = api.OK
			found++
		}
		if e := Check(l...); e != want {
			t.Error("Check:", l, e, "and not", want)
		}
	}
	look()
	for _, a := range all {
		look(a)
		for _, b := range all {
			look(a, b)
			for _, c := range all {
				look(a, b, c)
			}
		}
	}
	// Of the changes of a key, two are births, two are deaths and four are swaps.
	if found != 1+3*8+3*8*8+8*8*8 {
		t.Error("plans among the lists:", found)
	}
}

// P6.2
func TestCheckRefuses(t *testing.T) {
	for _, l := range planless() {
		if e := Check(l...); e != api.ErrArg {
			t.Error("Check:", l, e)
		}
	}
	if e := Check([]api.Change{}...); e != api.OK {
		t.Error("Check of an empty slice:", e)
	}
}

// P6.2, with P6.8: all plans of three keys, and all maps of these
func TestApply(t *testing.T) {
	fitting := 0
	for _, keys := range triples {
		worlds := mapsOf(keys...)
		for _, l := range plans(keys...) {
			for _, w := range worlds {
				if !fits(w, l) {
					if pairs, e := Apply(w.list(), l...); len(pairs) != 0 || e != api.ErrState {
						t.Error("Apply of a plan that does not fit:", w, l, pairs, e)
					}
					continue
				}
				fitting++
				want := after(w, l).list()
				pairs, e := Apply(w.list(), l...)
				if !slices.Equal(pairs, want) || e != api.OK {
					t.Error("Apply:", w, l, pairs, e, "and not", want)
				}
				births, deaths, _, e := Counts(l...)
				if len(pairs) != len(w)+births-deaths || e != api.OK {
					t.Error("the number of pairs after a plan:", w, l, pairs, births, deaths, e)
				}
			}
		}
	}
	if fitting < 1000 {
		t.Error("too few plans that fit:", fitting)
	}
}

// P6.2: keys without a change keep their pairs, wherever they are
func TestApplyKeepsOthers(t *testing.T) {
	eachContents(func(from uint64, w plain) {
		for key, value := range w {
			for _, l := range [][]api.Change{nil, {gone(key, value)}, {swap(key, value, 77)}, {swap(key, value, value)}} {
				want := after(w, l).list()
				if pairs, e := Apply(w.list(), l...); !slices.Equal(pairs, want) || e != api.OK {
					t.Error("Apply:", w, l, pairs, e, "and not", want)
				}
			}
			for _, c := range []api.Change{born(key, value), gone(key, value+1), swap(key, value-1, value), gone(key, 0)} {
				if pairs, e := Apply(w.list(), c); len(pairs) != 0 || e != api.ErrState {
					t.Error("Apply of a change that does not fit:", w, c, pairs, e)
				}
			}
		}
		for i := range uint64(width) {
			key := from + i
			if _, had := w[key]; had {
				continue
			}
			want := after(w, []api.Change{born(key, 0)}).list()
			if pairs, e := Apply(w.list(), born(key, 0)); !slices.Equal(pairs, want) || e != api.OK {
				t.Error("Apply of a birth:", w, key, pairs, e)
			}
			for _, c := range []api.Change{gone(key, 0), gone(key, 10), swap(key, 0, 0), swap(key, 0, 5)} {
				if pairs, e := Apply(w.list(), c); len(pairs) != 0 || e != api.ErrState {
					t.Error("Apply of a change of an absent key:", w, c, pairs, e)
				}
			}
		}
	})
}

// P6.2: the order of the errors
func TestApplyRefuses(t *testing.T) {
	for _, pairs := range unordered() {
		for _, l := range append(planless(), nil, first(), []api.Change{gone(9, 9)}) {
			if left, e := Apply(pairs, l...); len(left) != 0 || e != api.ErrArg {
				t.Error("Apply to pairs that are not ascending:", pairs, l, left, e)
			}
		}
	}
	for _, l := range planless() {
		for _, pairs := range [][]api.Pair{nil, {p(1, 10), p(2, 20), p(3, 30)}, {p(1, 11)}, {p(2, 1)}} {
			if left, e := Apply(pairs, l...); len(left) != 0 || e != api.ErrArg {
				t.Error("Apply of changes that are no plan:", pairs, l, left, e)
			}
		}
	}
	// A change that does not fit is found at each place of the plan.
	for _, pairs := range [][]api.Pair{
		nil, {p(1, 10)}, {p(1, 10), p(2, 20)}, {p(2, 20), p(3, 30)}, {p(1, 10), p(3, 30)},
		{p(1, 11), p(2, 20), p(3, 30)}, {p(1, 10), p(2, 21), p(3, 30)}, {p(1, 10), p(2, 20), p(3, 0)},
		{p(0, 10), p(2, 20), p(3, 30)}, {p(1, 10), p(2, 20), p(4, 30)},
	} {
		if left, e := Apply(pairs, first()...); len(left) != 0 || e != api.ErrState {
			t.Error("Apply of a plan that does not fit:", pairs, left, e)
		}
	}
	if left, e := Apply(nil); len(left) != 0 || e != api.OK {
		t.Error("Apply of nothing to nothing:", left, e)
	}
}

// P6.3, P6.6: all plans of three keys
func TestInvertAndCounts(t *testing.T) {
	for _, keys := range triples {
		for _, l := range plans(keys...) {
			var want []api.Change
			births, deaths, swaps := 0, 0, 0
			for _, c := range l {
				want = append(want, api.Change{Key: c.Key, Was: c.Is, Old: c.New, Is: c.Was, New: c.Old})
				if c.Was && c.Is {
					swaps++
				} else if c.Is {
					births++
				} else {
					deaths++
				}
			}
			back, e := Invert(l...)
			if !slices.Equal(back, want) || e != api.OK {
				t.Error("Invert:", l, back, e, "and not", want)
			}
			if a, b, c, e := Counts(l...); a != births || b != deaths || c != swaps || e != api.OK {
				t.Error("Counts:", l, a, b, c, e)
			}
			if e := Check(back...); e != api.OK {
				t.Error("Invert gives no plan:", l, back)
			}
			if a, b, c, e := Counts(back...); a != deaths || b != births || c != swaps || e != api.OK {
				t.Error("Counts of the inverted plan:", l, a, b, c, e)
			}
			if again, e := Invert(back...); !slices.Equal(again, l) || e != api.OK {
				t.Error("Invert twice:", l, again, e)
			}
		}
	}
}

// P6.3
func TestInvertAndCountsRefuse(t *testing.T) {
	for _, l := range planless() {
		if back, e := Invert(l...); len(back) != 0 || e != api.ErrArg {
			t.Error("Invert:", l, back, e)
		}
		if a, b, c, e := Counts(l...); a != 0 || b != 0 || c != 0 || e != api.ErrArg {
			t.Error("Counts:", l, a, b, c, e)
		}
	}
	if back, e := Invert(); len(back) != 0 || e != api.OK {
		t.Error("Invert of nothing:", back, e)
	}
	if a, b, c, e := Counts(); a != 0 || b != 0 || c != 0 || e != api.OK {
		t.Error("Counts of nothing:", a, b, c, e)
	}
}

// joined returns what the document says of two plans, key by key.
func joined(a, b []api.Change) ([]api.Change, api.Errno) {
	one, two := map[uint64]api.Change{}, map[uint64]api.Change{}
	var keys []uint64
	for _, c := range a {
		one[c.Key] = c
		keys = append(keys, c.Key)
	}
	for _, c := range b {
		two[c.Key] = c
		keys = append(keys, c.Key)
	}
	slices.Sort(keys)
	var l []api.Change
	for _, key := range slices.Compact(keys) {
		x, some := one[key]
		y, some2 := two[key]
		switch {
		case !some2:
			l = append(l, x)
		case !some:
			l = append(l, y)
		case x.Is != y.Was || x.New != y.Old:
			return nil, api.ErrState
		case x.Was || y.Is:
			l = append(l, api.Change{Key: key, Was: x.Was, Old: x.Old, Is: y.Is, New: y.New})
		}
	}
	return l, api.OK
}

// P6.4: all pairs of plans of three keys
func TestThen(t *testing.T) {
	for _, keys := range triples {
		all := plans(keys...)
		for _, a := range all {
			for _, b := range all {
				want, wrong := joined(a, b)
				if l, e := Then(a, b); !slices.Equal(l, want) || e != wrong {
					t.Error("Then:", a, b, l, e, "and not", want, wrong)
				}
			}
		}
	}
}

// P6.4: plans whose keys lie among each other in every way
func TestThenOfOtherKeys(t *testing.T) {
	const n = 7
	for _, from := range []uint64{0, 1<<63 - 3, last - n + 1} {
		// Each key is in neither plan, in the first one, in the second one, or in both.
		for code := range 1 << (2 * n) {
			var a, b []api.Change
			for i := range uint64(n) {
				if code>>(2*i)&1 == 1 {
					a = append(a, swap(from+i, 0, i))
				}
				if code>>(2*i)&2 == 2 {
					b = append(b, gone(from+i, i))
				}
			}
			// The value that a key of both has in between is that of its place.
			want, _ := joined(a, b)
			if l, e := Then(a, b); !slices.Equal(l, want) || e != api.OK {
				t.Error("Then:", a, b, l, e, "and not", want)
			}
		}
	}
}

// P6.4: the order of the errors
func TestThenRefuses(t *testing.T) {
	for _, bad := range planless() {
		for _, l := range append(planless(), nil, first()) {
			if both, e := Then(bad, l); len(both) != 0 || e != api.ErrArg {
				t.Error("Then, of changes that are no plan:", bad, l, both, e)
			}
			if both, e := Then(l, bad); len(both) != 0 || e != api.ErrArg {
				t.Error("Then, of changes that are no plan:", l, bad, both, e)
			}
		}
	}
	// That a list is no plan comes before keys that do not fit, wherever it shows.
	a := []api.Change{born(1, 10), born(2, 20)}
	if both, e := Then(a, []api.Change{born(1, 10), {Key: 5}}); len(both) != 0 || e != api.ErrArg {
		t.Error("Then, of no plan that does not fit:", both, e)
	}
	if both, e := Then(append(a, api.Change{Key: 1}), []api.Change{born(1, 10)}); len(both) != 0 || e != api.ErrArg {
		t.Error("Then, of no plan that does not fit:", both, e)
	}
	for _, b := range [][]api.Change{
		{born(1, 10)}, {gone(1, 11)}, {gone(1, 0)}, {swap(1, 11, 10)}, {gone(1, 10), gone(2, 10)}, {born(0, 0), born(2, 20), born(3, 0)},
	} {
		if both, e := Then(a, b); len(both) != 0 || e != api.ErrState {
			t.Error("Then, of plans that do not fit:", a, b, both, e)
		}
	}
	// The value 0 is not the absence of a key.
	if both, e := Then([]api.Change{gone(1, 5)}, []api.Change{gone(1, 0)}); len(both) != 0 || e != api.ErrState {
		t.Error("Then, of two deaths:", both, e)
	}
	if both, e := Then([]api.Change{born(1, 0)}, []api.Change{born(1, 5)}); len(both) != 0 || e != api.ErrState {
		t.Error("Then, of two births:", both, e)
	}
	if both, e := Then(nil, []api.Change{}); len(both) != 0 || e != api.OK {
		t.Error("Then, of nothing:", both, e)
	}
}

// build returns a map of layer 5.
func build(t *testing.T, w plain) *omap.Map {
	t.Helper()
	m, e := omap.New(w.list()...)
	if m == nil || e != api.OK {
		t.Fatal("omap.New:", w, e)
	}
	return m
}

// P6.5, with P6.8
func TestMoveAsMapsDo(t *testing.T) {
	tried := 0
	eachMove(func(w plain, s api.Span, by uint64) {
		tried++
		l, e := Move(w.list(), s, by)
		if e != api.OK || Check(l...) != api.OK || !fits(w, l) {
			t.Error("Move gives no plan that fits:", w, s, by, l, e)
		}
		m := build(t, w)
		n, e := m.Move(s, by)
		if e != api.OK {
			t.Error("omap.Move:", w, s, by, e)
		}
		pairs, e := Apply(w.list(), l...)
		if !slices.Equal(pairs, m.Pairs()) || e != api.OK {
			t.Error("Apply of the plan of moving:", w, s, by, pairs, e, "and not", m.Pairs())
		}
		count := 0
		for _, c := range l {
			if c.Was && in(s, c.Key) {
				count++
			}
		}
		if count != n {
			t.Error("deaths and swaps in the range:", w, s, by, l, "and not", n)
		}
		births, deaths, _, e := Counts(l...)
		if len(pairs) != len(w)+births-deaths || e != api.OK {
			t.Error("the number of pairs after a move:", w, s, by, pairs, births, deaths, e)
		}
	})
	if tried < 1000 {
		t.Error("too few moves:", tried)
	}
}

// P6.5
func TestDeleteAsMapsDo(t *testing.T) {
	eachContents(func(from uint64, w plain) {
		for _, s := range spans(from) {
			l, e := Delete(w.list(), s)
			if e != api.OK {
				continue
			}
			if Check(l...) != api.OK || !fits(w, l) {
				t.Error("Delete gives no plan that fits:", w, s, l)
			}
			m := build(t, w)
			if n, e := m.DeleteRange(s); n != len(l) || e != api.OK {
				t.Error("omap.DeleteRange:", w, s, n, e, l)
			}
			if pairs, e := Apply(w.list(), l...); !slices.Equal(pairs, m.Pairs()) || e != api.OK {
				t.Error("Apply of the plan of deleting:", w, s, pairs, e, "and not", m.Pairs())
			}
		}
	})
}

// P6.6: the inverted plan leads back, for plans of three keys and for moves
func TestInvertLeadsBack(t *testing.T) {
	back := func(w plain, l []api.Change) {
		to, e := Apply(w.list(), l...)
		if e != api.OK {
			t.Error("Apply:", w, l, e)
		}
		undo, e := Invert(l...)
		if e != api.OK {
			t.Error("Invert:", l, e)
		}
		if pairs, e := Apply(to, undo...); !slices.Equal(pairs, w.list()) || e != api.OK {
			t.Error("the inverted plan does not lead back:", w, l, to, pairs, e)
		}
	}
	for _, keys := range triples {
		worlds := mapsOf(keys...)
		for _, l := range plans(keys...) {
			for _, w := range worlds {
				if fits(w, l) {
					back(w, l)
				}
			}
		}
	}
	eachMove(func(w plain, s api.Span, by uint64) {
		l, _ := Move(w.list(), s, by)
		back(w, l)
	})
}

// P6.7: all maps of three keys, with all plans that fit one after the other
func TestThenLeadsOn(t *testing.T) {
	tried := 0
	for _, keys := range triples {
		all := plans(keys...)
		for _, w := range mapsOf(keys...) {
			for _, a := range all {
				if !fits(w, a) {
					continue
				}
				between := after(w, a)
				for _, b := range all {
					if !fits(between, b) {
						continue
					}
					tried++
					both, e := Then(a, b)
					if e != api.OK || Check(both...) != api.OK || !fits(w, both) {
						t.Error("Then:", w, a, b, both, e)
					}
					want := after(between, b).list()
					if pairs, e := Apply(w.list(), both...); !slices.Equal(pairs, want) || e != api.OK {
						t.Error("Apply of both plans:", w, a, b, both, pairs, e, "and not", want)
					}
				}
			}
		}
	}
	if tried < 1000 {
		t.Error("too few plans that fit:", tried)
	}
}

// P6.7: all maps of two keys, with all plans that fit one after the other
func TestThenIsAssociative(t *testing.T) {
	tried := 0
	for _, keys := range [][]uint64{{0, 1}, {0, last}, {last - 1, last}} {
		all := plans(keys...)
		// fitting calls f with the plans that fit a map, and with the map after each of them.
		fitting := func(w plain, f func(l []api.Change, then plain)) {
			for _, l := range all {
				if fits(w, l) {
					f(l, after(w, l))
				}
			}
		}
		for _, w := range mapsOf(keys...) {
			fitting(w, func(a []api.Change, w plain) {
				fitting(w, func(b []api.Change, w plain) {
					fitting(w, func(c []api.Change, _ plain) {
						tried++
						ab, e := Then(a, b)
						bc, e2 := Then(b, c)
						left, e3 := Then(ab, c)
						right, e4 := Then(a, bc)
						if e != api.OK || e2 != api.OK || e3 != api.OK || e4 != api.OK || !slices.Equal(left, right) {
							t.Error("Then is not associative:", a, b, c, left, right, e, e2, e3, e4)
						}
					})
				})
			})
		}
	}
	if tried < 1000 {
		t.Error("too few plans that fit:", tried)
	}
}

// P6.7: moves and deletions one after the other
func TestThenOfMoves(t *testing.T) {
	eachContents(func(from uint64, w plain) {
		for _, s := range spans(from) {
			a, e := Move(w.list(), s, 2)
			if e != api.OK {
				continue
			}
			between, _ := Apply(w.list(), a...)
			for _, s2 := range spans(from) {
				b, e := Move(between, s2, 1)
				if e != api.OK {
					b, e = Delete(between, s2)
				}
				if e != api.OK {
					continue
				}
				want, _ := Apply(between, b...)
				both, e := Then(a, b)
				if e != api.OK {
					t.Error("Then, of moves:", w, s, s2, e)
				}
				if pairs, e := Apply(w.list(), both...); !slices.Equal(pairs, want) || e != api.OK {
					t.Error("Apply of two moves:", w, s, s2, pairs, e, "and not", want)
				}
			}
			undo, _ := Invert(a...)
			none, e := Then(a, undo)
			if e != api.OK {
				t.Error("Then, of a move and its inverse:", w, s, e)
			}
			for _, c := range none {
				if !c.Was || !c.Is || c.Old != c.New {
					t.Error("a move and its inverse change a key:", w, s, c)
				}
			}
		}
	})
}

// P6.1 to P6.4, with R3: arguments stay as they are, and results are memory of their own
func TestMemory(t *testing.T) {
	// The arrays go on behind the arguments, where nothing may be written.
	array := []api.Pair{p(1, 10), p(2, 20), p(3, 30), p(7, 70), p(9, 90)}
	long := append(first(), born(5, 50), gone(7, 70), born(8, 80), gone(9, 90))
	more := []api.Change{swap(3, 20, 21), gone(5, 50), born(6, 60), born(7, 71), born(9, 91)}
	pairs, a, b := array[:4], long[:5], more[:4]
	calls := map[string]func() ([]api.Change, []api.Pair, api.Errno){
		"Move":   func() ([]api.Change, []api.Pair, api.Errno) { l, e := Move(pairs, r(1, 3), 1); return l, nil, e },
		"Delete": func() ([]api.Change, []api.Pair, api.Errno) { l, e := Delete(pairs, r(1, 9)); return l, nil, e },
		"Invert": func() ([]api.Change, []api.Pair, api.Errno) { l, e := Invert(a...); return l, nil, e },
		"Then":   func() ([]api.Change, []api.Pair, api.Errno) { l, e := Then(a, b); return l, nil, e },
		"Then, first alone": func() ([]api.Change, []api.Pair, api.Errno) {
			l, e := Then(a, nil)
			return l, nil, e
		},
		"Then, second alone": func() ([]api.Change, []api.Pair, api.Errno) {
			l, e := Then(nil, b)
			return l, nil, e
		},
		"Apply":            func() ([]api.Change, []api.Pair, api.Errno) { l, e := Apply(pairs, a...); return nil, l, e },
		"Apply of no plan": func() ([]api.Change, []api.Pair, api.Errno) { l, e := Apply(pairs); return nil, l, e },
		"Check":            func() ([]api.Change, []api.Pair, api.Errno) { return nil, nil, Check(a...) },
		"Counts":           func() ([]api.Change, []api.Pair, api.Errno) { _, _, _, e := Counts(a...); return nil, nil, e },
	}
	array0, long0, more0 := slices.Clone(array), slices.Clone(long), slices.Clone(more)
	stay := func(name string) {
		t.Helper()
		if !slices.Equal(array, array0) || !slices.Equal(long, long0) || !slices.Equal(more, more0) {
			t.Error("arguments have changed:", name, array, long, more)
		}
	}
	for name, call := range calls {
		l, left, e := call()
		if e != api.OK {
			t.Error("an error:", name, e)
		}
		stay(name)
		l0, left0 := slices.Clone(l), slices.Clone(left)
		l2, left2, _ := call()
		if !slices.Equal(l2, l0) || !slices.Equal(left2, left0) {
			t.Error("another result of the same call:", name, l2, left2)
		}
		for i := range l {
			l[i] = swap(99, 99, 99)
		}
		for i := range left {
			left[i] = p(99, 99)
		}
		_, _ = append(l, swap(98, 98, 98)), append(left, p(98, 98))
		stay(name)
		if !slices.Equal(l2, l0) || !slices.Equal(left2, left0) {
			t.Error("results share memory:", name)
		}
	}
}

// P6.1 to P6.8: many pairs, whose keys are even, and moves by even and by odd numbers
func TestManyPairs(t *testing.T) {
	const n = 100000
	w := plain{}
	for i := range uint64(n) {
		w[2*i] = i
	}
	pairs := w.list()
	for _, x := range []struct {
		s                     api.Span
		by                    uint64
		births, deaths, swaps int
	}{
		{r(0, n-1), n - 1, n / 2, n / 2, 0},
		{r(0, n-1), n, 0, n / 2, n / 2},
		{r(0, 2*n), 2, 1, 1, n - 1},
		{r(0, 2*n), 1, n, n, 0},
		{r(0, last-1<<32), 1 << 32, n, n, 0},
		{r(n, 2*n), 1 << 63, n / 2, n / 2, 0},
	} {
		l, e := Move(pairs, x.s, x.by)
		if e != api.OK {
			t.Error("Move:", x.s, x.by, e)
		}
		if a, b, c, e := Counts(l...); a != x.births || b != x.deaths || c != x.swaps || e != api.OK {
			t.Error("Counts:", x.s, x.by, a, b, c, e)
		}
		m := build(t, w)
		m.Move(x.s, x.by)
		moved, e := Apply(pairs, l...)
		if !slices.Equal(moved, m.Pairs()) || e != api.OK {
			t.Error("Apply of a move of many pairs:", x.s, x.by, e)
		}
		undo, _ := Invert(l...)
		if again, e := Apply(moved, undo...); !slices.Equal(again, pairs) || e != api.OK {
			t.Error("Apply of the inverse:", x.s, x.by, e)
		}
		all, _ := Delete(moved, r(0, last))
		both, e := Then(l, all)
		if e != api.OK {
			t.Error("Then, of many changes:", x.s, x.by, e)
		}
		if left, e := Apply(pairs, both...); len(left) != 0 || e != api.OK {
			t.Error("Apply of a move, and of deleting all:", x.s, x.by, e)
		}
	}
}

// P6.1: the examples of the chapter
func TestExamplesOfRanges(t *testing.T) {
	if l, e := Move([]api.Pair{p(1, 10), p(2, 20), p(3, 30)}, r(1, 2), 1); !slices.Equal(l, first()) || e != api.OK {
		t.Error("Move(1:10 2:20 3:30, 1-2, 1):", l, e)
	}
	if l, e := Move([]api.Pair{p(1, 10), p(7, 70)}, r(1, 1), 2); !slices.Equal(l, []api.Change{gone(1, 10), born(3, 10)}) || e != api.OK {
		t.Error("Move(1:10 7:70, 1-1, 2):", l, e)
	}
	if l, e := Move([]api.Pair{p(1, 10)}, r(5, 6), 1); len(l) != 0 || e != api.OK {
		t.Error("Move(1:10, 5-6, 1):", l, e)
	}
	if l, e := Move([]api.Pair{p(1, 10)}, r(1, 1), 0); len(l) != 0 || e != api.ErrBad {
		t.Error("Move(1:10, 1-1, 0):", l, e)
	}
	if l, e := Move([]api.Pair{p(2, 1), p(1, 1)}, r(1, 1), 1); len(l) != 0 || e != api.ErrArg {
		t.Error("Move(2:1 1:1, 1-1, 1):", l, e)
	}
	if l, e := Delete([]api.Pair{p(1, 10), p(2, 20), p(9, 90)}, r(2, 9)); !slices.Equal(l, []api.Change{gone(2, 20), gone(9, 90)}) || e != api.OK {
		t.Error("Delete(1:10 2:20 9:90, 2-9):", l, e)
	}
}

// P6.2 to P6.4: the examples of the chapter
func TestExamplesOfPlans(t *testing.T) {
	if l, e := Apply([]api.Pair{p(1, 10), p(2, 20), p(3, 30)}, first()...); !slices.Equal(l, []api.Pair{p(2, 10), p(3, 20)}) || e != api.OK {
		t.Error("Apply(1:10 2:20 3:30, the first plan):", l, e)
	}
	if l, e := Apply([]api.Pair{p(1, 11), p(2, 20), p(3, 30)}, first()...); len(l) != 0 || e != api.ErrState {
		t.Error("Apply(1:11 2:20 3:30, the first plan):", l, e)
	}
	if l, e := Invert(first()...); !slices.Equal(l, []api.Change{born(1, 10), swap(2, 10, 20), swap(3, 20, 30)}) || e != api.OK {
		t.Error("Invert(the first plan):", l, e)
	}
	if a, b, c, e := Counts(first()...); a != 0 || b != 1 || c != 2 || e != api.OK {
		t.Error("Counts of the first plan:", a, b, c, e)
	}
	if l, e := Then([]api.Change{gone(1, 10), born(3, 10)}, []api.Change{gone(3, 10)}); !slices.Equal(l, []api.Change{gone(1, 10)}) || e != api.OK {
		t.Error("Then(1: 10 > -, 3: - > 10; 3: 10 > -):", l, e)
	}
	if l, e := Then([]api.Change{swap(1, 10, 11)}, []api.Change{swap(1, 10, 12)}); len(l) != 0 || e != api.ErrState {
		t.Error("Then(1: 10 > 11; 1: 10 > 12):", l, e)
	}
	if l, e := Then([]api.Change{born(1, 5)}, []api.Change{gone(1, 5)}); len(l) != 0 || e != api.OK {
		t.Error("Then(1: - > 5; 1: 5 > -):", l, e)
	}
	if e := Check(api.Change{Key: 1}); e != api.ErrArg {
		t.Error("Check(1: - > -):", e)
	}
	if e := Check(gone(2, 1), born(2, 1)); e != api.ErrArg {
		t.Error("Check(2: 1 > -, 2: - > 1):", e)
	}
}
