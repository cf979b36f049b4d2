package history

import (
	"math"
	"slices"
	"testing"

	"leapfrog/api"
)

const (
	least = math.MinInt
	most  = math.MaxInt
)

// Numbers that are allowed and others. Some of the others become allowed ones if only their lowest bits are looked at.
var (
	noThreads = []int{-1, -2, -64, -256, -1<<32 + 1, least, least + 1, 64, 65, 128, 256, 1 << 16, 1 << 32, 1<<32 + 1, most}
	numbers   = []int{least, least + 1, -1 << 32, -1<<32 + 5, -64, -3, -2, -1, 0, 1, 2, 3, 5, 63, 64, 1<<31 - 1, 1 << 31, 1 << 32, 1<<32 + 5, most - 1, most}
)

// Results that differ from the zero result in one field each.
var results = []api.Result{{Err: api.ErrFull}, {Err: -1}, {Found: true}, {Key: 1}, {Value: 1 << 63}, {Count: 1}, {Count: -1}}

// cl is a call of a thread with its first step, the step of its effect, its last step and the number of its steps.
func cl(thread, index, invoked, took, answered, steps int) api.Call {
	return api.Call{Thread: thread, Index: index, Invoked: invoked, Took: took, Answered: answered, Steps: steps}
}

// with returns a call with a result.
func with(c api.Call, r api.Result) api.Call {
	c.Result = r
	return c
}

// precedes is what the document says of Before.
func precedes(a, b api.Call) bool {
	return a.Answered >= 0 && a.Answered < b.Invoked
}

// placed is what the document says of the thread, the index and the first step of the call i: its first condition.
func placed(l []api.Call, i int) bool {
	c, n := l[i], 0
	for _, b := range l[:i] {
		if b.Thread == c.Thread {
			n++
		}
	}
	return c.Thread >= 0 && c.Thread <= 63 && c.Index == n && c.Invoked >= 0 && (i == 0 || c.Invoked > l[i-1].Invoked)
}

// ended is what the document says of the end of a call whose other steps are allowed: its third condition.
func ended(c api.Call) bool {
	if c.Answered < 0 {
		return c.Answered == -1 && c.Steps == 0 && c.Result == api.Result{}
	}
	if c.Took < 0 || c.Took > c.Answered || c.Steps < 1 {
		return false
	}
	// Without a sign, the number of steps does not wrap around.
	if uint64(c.Steps) > uint64(c.Answered)-uint64(c.Invoked)+1 {
		return false
	}
	return c.Answered == c.Invoked || c.Steps >= 2
}

// apart is what the document says of the call i and the calls of its thread and of others before it: its last two conditions.
func apart(l []api.Call, i int) bool {
	c := l[i]
	of := func(c api.Call) []int { return []int{c.Invoked, c.Took, c.Answered} }
	own := slices.DeleteFunc(of(c), func(step int) bool { return step < 0 })
	var before []api.Call
	for _, b := range l[:i] {
		if b.Thread == c.Thread {
			before = append(before, b)
			continue
		}
		for _, step := range own {
			if slices.Contains(of(b), step) {
				return false
			}
		}
	}
	return len(before) == 0 || precedes(before[len(before)-1], c)
}

// fine is what the document says of the call i of a list whose earlier calls are well formed.
func fine(l []api.Call, i int) bool {
	c := l[i]
	return placed(l, i) && (c.Took == -1 || c.Took >= c.Invoked) && ended(c) && apart(l, i)
}

// bad is what the document says of Check: the index of the first call that is not fine.
func bad(l []api.Call) (int, api.Errno) {
	for i := range l {
		if !fine(l, i) {
			return i, api.ErrOrder
		}
	}
	return 0, api.OK
}

// indices returns the indices of the calls that is accepts.
func indices(l []api.Call, is func(c api.Call) bool) []int {
	var list []int
	for i, c := range l {
		if is(c) {
			list = append(list, i)
		}
	}
	return list
}

// pendingOf is what the document says of Pending.
func pendingOf(l []api.Call) []int {
	return indices(l, func(c api.Call) bool { return c.Answered < 0 })
}

// effectsOf is what the document says of Effects for a well-formed history.
func effectsOf(l []api.Call) []int {
	list := indices(l, func(c api.Call) bool { return c.Took >= 0 })
	slices.SortStableFunc(list, func(a, b int) int {
		if l[a].Took < l[b].Took {
			return -1
		}
		return 1
	})
	return list
}

// agreement is what the document says of Agrees for a well-formed history.
func agreement(order []int, l []api.Call) (bool, api.Errno) {
	at := make([]int, len(l))
	for i := range at {
		at[i] = -1
	}
	for k, i := range order {
		if i < 0 || i >= len(l) {
			return false, api.ErrRange
		}
		if at[i] >= 0 {
			return false, api.ErrHave
		}
		at[i] = k
	}
	for a := range l {
		for b := range l {
			if precedes(l[a], l[b]) && at[b] >= 0 && (at[a] < 0 || at[a] > at[b]) {
				return false, api.OK
			}
		}
	}
	return true, api.OK
}

// until is what the document says of Prefix for a well-formed history.
func until(step int, l []api.Call) []api.Call {
	var list []api.Call
	for _, c := range l {
		if c.Invoked > step {
			continue
		}
		if c.Took > step {
			c.Took = -1
		}
		if c.Answered > step {
			c = api.Call{Thread: c.Thread, Index: c.Index, Op: c.Op, Invoked: c.Invoked, Took: c.Took, Answered: -1}
		}
		list = append(list, c)
	}
	return list
}

// of returns the calls of a thread.
func of(thread int, l []api.Call) []api.Call {
	return slices.DeleteFunc(slices.Clone(l), func(c api.Call) bool { return c.Thread != thread })
}

// short returns the front part of a list that is too long for a message.
func short[T any](l []T) []T {
	return l[:min(len(l), 12)]
}

// is looks whether a call returned a list, or an error.
func is[T comparable](t *testing.T, want []T, wanted api.Errno, what ...any) func(got []T, e api.Errno) {
	return func(got []T, e api.Errno) {
		t.Helper()
		if e != wanted || !slices.Equal(got, want) {
			t.Error(append(what, "got", short(got), e, "and not", short(want), wanted)...)
		}
	}
}

// gives looks whether a call returned a number or a bool, or an error.
func gives[T comparable](t *testing.T, want T, wanted api.Errno, what ...any) func(got T, e api.Errno) {
	return func(got T, e api.Errno) {
		t.Helper()
		if e != wanted || got != want {
			t.Error(append(what, "got", got, e, "and not", want, wanted)...)
		}
	}
}

// stepsOf returns the steps of a history, those beside them, and the first and the last ones after which there may be a history.
func stepsOf(l []api.Call) []int {
	list := []int{-1, 0, most}
	for _, c := range l {
		for _, step := range []int{c.Invoked, c.Took, c.Answered} {
			list = append(list, max(step-1, -1), max(step, -1), max(step, step+1))
		}
	}
	slices.Sort(list)
	return slices.Compact(list)
}

// ordered looks at all calls for a well-formed history, with each of the steps and of the orders.
func ordered(t *testing.T, l []api.Call, steps []int, orders ...[]int) {
	t.Helper()
	before := slices.Clone(l)
	gives(t, 0, api.OK, "Check:", short(l))(Check(l...))
	is(t, effectsOf(l), api.OK, "Effects:", short(l))(Effects(l...))
	for _, step := range steps {
		if step < -1 {
			is[api.Call](t, nil, api.ErrRange, "Prefix:", step, short(l))(Prefix(step, l...))
			continue
		}
		is(t, until(step, l), api.OK, "Prefix:", step, short(l))(Prefix(step, l...))
	}
	for _, order := range orders {
		same := slices.Clone(order)
		want, e := agreement(order, l)
		gives(t, want, e, "Agrees:", short(order), short(l))(Agrees(order, l...))
		if !slices.Equal(order, same) {
			t.Error("an order is changed:", short(same), short(order))
		}
	}
	anyOrder(t, l)
	if !slices.Equal(l, before) {
		t.Error("arguments are changed:", short(before), short(l))
	}
}

// anyOrder looks at the calls that are for any list.
func anyOrder(t *testing.T, l []api.Call) {
	t.Helper()
	threads := []int{-1, 0, 1, 63, 64, least, most}
	for _, c := range short(l) {
		threads = append(threads, c.Thread)
	}
	for _, thread := range threads {
		is(t, of(thread, l), api.OK, "Of:", thread, short(l))(Of(thread, l...), api.OK)
	}
	is(t, pendingOf(l), api.OK, "Pending:", short(l))(Pending(l...), api.OK)
}

// spoiled looks at all calls for a list that is not well formed, with steps and orders that are allowed and with others.
func spoiled(t *testing.T, at int, l []api.Call) {
	t.Helper()
	gives(t, at, api.ErrOrder, "Check:", short(l))(Check(l...))
	is[int](t, nil, api.ErrOrder, "Effects:", short(l))(Effects(l...))
	for _, step := range []int{-1, 0, most, -2, least} {
		is[api.Call](t, nil, api.ErrOrder, "Prefix:", step, short(l))(Prefix(step, l...))
	}
	for _, order := range [][]int{nil, {0}, {0, 0}, {-1}, {len(l)}} {
		gives(t, false, api.ErrOrder, "Agrees:", order, short(l))(Agrees(order, l...))
	}
	anyOrder(t, l)
}

// either looks at all calls for a list that may be well formed.
func either(t *testing.T, l []api.Call) {
	t.Helper()
	if at, e := bad(l); e != api.OK {
		spoiled(t, at, l)
		return
	}
	ordered(t, l, stepsOf(l), inOrder(l))
}

// checked looks at Check alone.
func checked(t *testing.T, l ...api.Call) {
	t.Helper()
	at, e := bad(l)
	gives(t, at, e, "Check:", short(l))(Check(l...))
}

// inOrder returns the indices of all calls.
func inOrder(l []api.Call) []int {
	var all []int
	for i := range l {
		all = append(all, i)
	}
	return all
}

// sequences calls f with all lists of at most n elements of l.
func sequences(l []int, n int, f func(list []int)) {
	var more func(list []int)
	more = func(list []int) {
		f(list)
		for _, x := range l {
			if len(list) < n {
				more(append(slices.Clone(list), x))
			}
		}
	}
	more(nil)
}

// permutations returns all orders of some or all of n calls, each of them at most once.
func permutations(n int) [][]int {
	var all []int
	for i := range n {
		all = append(all, i)
	}
	var list [][]int
	sequences(all, n, func(order []int) {
		for k, i := range order {
			if slices.Contains(order[:k], i) {
				return
			}
		}
		list = append(list, order)
	})
	return list
}

// patterns calls f with histories of n calls of different threads, whose first and last steps come in all orders, and of which any may be pending.
func patterns(n int, f func(l []api.Call)) {
	turn := 0
	var more func(step int, l []api.Call)
	more = func(step int, l []api.Call) {
		if len(l) == n {
			f(l)
		} else {
			turn++
			c := cl(len(l), 0, step, []int{-1, step, step + 1}[turn%3], -1, 0)
			more(step+3, append(slices.Clone(l), c))
		}
		for i, c := range l {
			if c.Answered >= 0 {
				continue
			}
			next := slices.Clone(l)
			turn++
			took := []int{c.Invoked, c.Invoked + 1, step}[turn%3]
			next[i] = with(cl(c.Thread, c.Index, c.Invoked, took, step, 2+turn%2), api.Result{Count: turn})
			more(step+3, next)
		}
	}
	more(2, nil)
}

// joined returns the history that arises if a thread whose calls have ended performs the next call as well.
func joined(l []api.Call) []api.Call {
	list := slices.Clone(l)
	var last, index []int
	for i, c := range list {
		thread := 0
		for thread < len(last) && !precedes(list[last[thread]], c) {
			thread++
		}
		if thread == len(last) {
			last, index = append(last, 0), append(index, -1)
		}
		last[thread] = i
		index[thread]++
		list[i].Thread, list[i].Index = thread, index[thread]
	}
	return list
}

// draws returns a function that returns numbers below n without a visible order.
func draws(seed uint64) func(n int) int {
	x := seed
	return func(n int) int {
		x = x*6364136223846793005 + 1442695040888963407
		return int(x>>33) % n
	}
}

// run returns a well-formed history of some threads, of which one is chosen at each step, for a number of steps.
func run(seed uint64, threads, n int) []api.Call {
	draw := draws(seed)
	var l []api.Call
	var open, index, own [64]int
	step := draw(3)
	for range n {
		thread := draw(threads)
		own[thread]++
		if open[thread] == 0 {
			c := cl(thread, index[thread], step, -1, -1, 0)
			// Whether a history is well formed does not depend on the operations.
			c.Op = api.Op{Kind: uint8(draw(256)), Key: uint64(draw(9)), Hi: uint64(draw(9)), Value: uint64(draw(9)), Old: uint64(draw(2)), By: uint64(draw(2)), Draw: uint64(draw(2))}
			l = append(l, c)
			open[thread], own[thread] = len(l), 1
			index[thread]++
		}
		c := &l[open[thread]-1]
		if c.Took == -1 && draw(2) == 0 {
			c.Took = step
		}
		if c.Took != -1 && draw(3) == 0 {
			c.Answered, c.Steps = step, own[thread]
			c.Result = api.Result{Err: api.Errno(draw(3)), Found: draw(2) == 0, Key: uint64(draw(9)), Value: uint64(draw(9)), Count: draw(9)}
			open[thread] = 0
		}
		step += 1 + draw(5)/4*draw(4)
	}
	return l
}

// runs calls f with histories of few and of many threads.
func runs(f func(threads int, l []api.Call)) {
	for _, threads := range []int{1, 2, 3, 8, 64} {
		for seed := range uint64(10) {
			f(threads, run(seed, threads, 20+15*int(seed)))
		}
	}
}

// P12.1 to P12.6: the empty history
func TestNoCalls(t *testing.T) {
	for _, l := range [][]api.Call{nil, {}} {
		ordered(t, l, numbers, nil, []int{}, []int{0}, []int{-1}, []int{1, 1}, []int{most}, []int{least})
		for thread := range 64 {
			is[api.Call](t, nil, api.OK, "Of:", thread)(Of(thread, l...), api.OK)
		}
	}
}

// P12.1: one call with a first step, a step of its effect, a last one and a number of steps of all sorts
func TestOneCall(t *testing.T) {
	for _, invoked := range numbers {
		for _, took := range numbers {
			for _, answered := range numbers {
				for _, n := range numbers {
					c := cl(7, 0, invoked, took, answered, n)
					checked(t, c)
					if n%2 == 0 {
						checked(t, with(c, results[(took&3+answered&3)%len(results)]))
					}
				}
			}
		}
	}
}

// P12.1: threads and indices of all sorts
func TestThreadsAndIndices(t *testing.T) {
	for thread := range 64 {
		for _, index := range numbers {
			checked(t, cl(thread, index, 3, 3, 3, 1))
			checked(t, cl(thread, 0, 3, 3, 3, 1), cl(thread, index, 4, -1, -1, 0))
			checked(t, cl(63-thread, 0, 3, 3, 3, 1), cl(thread, index, 4, -1, -1, 0))
		}
		ordered(t, []api.Call{cl(thread, 0, 3, 3, 3, 1), cl(63-thread, 0, 5, 7, 9, 3), cl(thread, 1, 10, -1, -1, 0)}, []int{2, 3, 6, 7, 9, 10}, []int{0, 1, 2}, []int{0, 2}, []int{1})
	}
	for _, thread := range noThreads {
		spoiled(t, 0, []api.Call{cl(thread, 0, 3, 3, 3, 1)})
		spoiled(t, 0, []api.Call{cl(thread, 0, 3, -1, -1, 0)})
		spoiled(t, 1, []api.Call{cl(0, 0, 3, 3, 3, 1), cl(thread, 0, 4, -1, -1, 0)})
		spoiled(t, 1, []api.Call{cl(0, 0, 3, 3, 3, 1), cl(thread, 1, 4, -1, -1, 0)})
	}
}

// P12.1: what the numbers of steps may be, with first and last steps at both ends and in the middle
func TestNumbersOfSteps(t *testing.T) {
	for _, invoked := range []int{0, 1, 100, 1 << 32, most - 3, most} {
		for _, span := range []int{0, 1, 2, 3, 64, 1 << 32, most} {
			answered := min(invoked, most-span) + span
			invoked := answered - span
			for _, n := range slices.Concat(numbers, []int{span - 1, span, max(span, span+1), max(span, span+1, span+2)}) {
				for _, took := range []int{invoked, invoked + span/2, answered} {
					checked(t, cl(1, 0, invoked, took, answered, n))
				}
			}
		}
	}
	ordered(t, []api.Call{cl(1, 0, 0, 5, most, most)}, numbers)
	ordered(t, []api.Call{cl(1, 0, 0, most, most, 2)}, numbers, []int{0}, []int{1}, []int{0, 0})
	ordered(t, []api.Call{cl(1, 0, most, most, most, 1)}, numbers, []int{0})
	ordered(t, []api.Call{cl(1, 0, most, most, -1, 0)}, numbers, []int{0})
}

// P12.1, P12.6: the result of a pending call is zero in all fields, and that of an answered one is any
func TestResults(t *testing.T) {
	for _, r := range results {
		ordered(t, []api.Call{with(cl(2, 0, 1, 2, 3, 3), r)}, []int{0, 1, 2, 3, 4})
		ordered(t, []api.Call{with(cl(2, 0, 1, 1, 1, 1), r)}, []int{0, 1, 2})
		spoiled(t, 0, []api.Call{with(cl(2, 0, 1, 2, -1, 0), r)})
		spoiled(t, 0, []api.Call{with(cl(2, 0, 1, -1, -1, 0), r)})
		spoiled(t, 1, []api.Call{cl(2, 0, 1, 2, 3, 3), with(cl(1, 0, 4, -1, -1, 0), r)})
	}
}

// P12.1: a second call of the same thread and of another one, with steps of all sorts
func TestSecondCall(t *testing.T) {
	for _, first := range []api.Call{cl(1, 0, 5, 5, 5, 1), cl(1, 0, 5, 7, 9, 2), cl(1, 0, 5, 9, 9, 5), cl(1, 0, 5, -1, -1, 0), cl(1, 0, 5, 7, -1, 0), cl(1, 0, 0, 1, most, 4), cl(1, 0, 0, most, -1, 0)} {
		some := []int{-2, -1, 0, 1, 4, 5, 6, 7, 8, 9, 10, 11, most - 1, most}
		for _, invoked := range some {
			for _, took := range some {
				for _, answered := range some {
					for _, n := range []int{0, 1, 2, 3} {
						checked(t, first, cl(1, 1, invoked, took, answered, n))
						checked(t, first, cl(2, 0, invoked, took, answered, n))
					}
				}
			}
		}
	}
}

// P12.1 to P12.6: all lists of a few calls, the last of which has numbers of all sorts
func TestFewCalls(t *testing.T) {
	var more func(n int, l []api.Call)
	more = func(n int, l []api.Call) {
		step := -1
		if len(l) > 0 {
			step = l[len(l)-1].Invoked
		}
		for _, thread := range []int{0, 63} {
			own := len(of(thread, l))
			for _, invoked := range []int{step, step + 1, step + 2} {
				for _, took := range []int{-1, invoked - 1, invoked, invoked + 2} {
					for _, answered := range []int{-1, invoked, invoked + 1, invoked + 2, invoked + 3} {
						for _, steps := range []int{0, 1, 2} {
							next := append(slices.Clone(l), cl(thread, own, invoked, took, answered, steps))
							if _, e := bad(next); e == api.OK && n > 1 {
								more(n-1, next)
							}
							if len(next) < 3 {
								either(t, next)
							} else {
								checked(t, next...)
							}
						}
					}
				}
			}
		}
	}
	more(3, nil)
}

// P12.1: the first of several calls that violate a condition is the one that counts
func TestFirstOfSeveral(t *testing.T) {
	good := []api.Call{cl(0, 0, 0, 4, 7, 4), cl(1, 0, 1, 5, 5, 2), cl(0, 1, 8, 10, -1, 0), cl(1, 1, 9, -1, -1, 0)}
	for i, c := range good {
		for _, wrong := range []api.Call{
			cl(64, 0, c.Invoked, c.Took, c.Answered, c.Steps), cl(-1, 0, c.Invoked, c.Took, c.Answered, c.Steps),
			cl(c.Thread, c.Index+1, c.Invoked, c.Took, c.Answered, c.Steps), cl(c.Thread, c.Index-1, c.Invoked, c.Took, c.Answered, c.Steps),
			cl(c.Thread, c.Index, -1, c.Took, c.Answered, c.Steps), cl(c.Thread, c.Index, c.Invoked, -2, c.Answered, c.Steps),
			cl(c.Thread, c.Index, c.Invoked, c.Took, -2, 0), cl(c.Thread, c.Index, c.Invoked, c.Took, -1, 1),
			cl(c.Thread, c.Index, c.Invoked, -1, 30, 2), cl(c.Thread, c.Index, c.Invoked, 30, 29, 2),
			cl(c.Thread, c.Index, c.Invoked, 30, 30, 1), cl(c.Thread, c.Index, c.Invoked, 30, 30, 32),
		} {
			l := slices.Clone(good)
			l[i] = wrong
			spoiled(t, i, l)
			spoiled(t, i, slices.Concat(l, []api.Call{wrong, cl(0, 2, 99, 99, 99, 1)}))
			for j := i + 1; j < len(l); j++ {
				l[j] = wrong
			}
			spoiled(t, i, l)
		}
	}
}

// P12.1: each condition by itself
func TestConditions(t *testing.T) {
	for _, c := range []struct {
		what string
		l    []api.Call
		at   int
		e    api.Errno
	}{
		{"the same first step", []api.Call{cl(0, 0, 3, -1, -1, 0), cl(1, 0, 3, -1, -1, 0)}, 1, api.ErrOrder},
		{"an earlier first step", []api.Call{cl(0, 0, 3, -1, -1, 0), cl(1, 0, 2, -1, -1, 0)}, 1, api.ErrOrder},
		{"the least first step", []api.Call{cl(0, 0, 0, -1, -1, 0), cl(1, 0, 1, -1, -1, 0)}, 0, api.OK},
		{"an effect before the beginning", []api.Call{cl(0, 0, 3, 2, -1, 0)}, 0, api.ErrOrder},
		{"an effect at the beginning", []api.Call{cl(0, 0, 3, 3, -1, 0)}, 0, api.OK},
		{"an end without an effect", []api.Call{cl(0, 0, 3, -1, 4, 2)}, 0, api.ErrOrder},
		{"an end before the effect", []api.Call{cl(0, 0, 3, 5, 4, 2)}, 0, api.ErrOrder},
		{"an end with the effect", []api.Call{cl(0, 0, 3, 5, 5, 2)}, 0, api.OK},
		{"one step of one", []api.Call{cl(0, 0, 3, 3, 3, 1)}, 0, api.OK},
		{"two steps of one", []api.Call{cl(0, 0, 3, 3, 3, 2)}, 0, api.ErrOrder},
		{"one step of two", []api.Call{cl(0, 0, 3, 3, 4, 1)}, 0, api.ErrOrder},
		{"three steps of three", []api.Call{cl(0, 0, 3, 3, 5, 3)}, 0, api.OK},
		{"four steps of three", []api.Call{cl(0, 0, 3, 3, 5, 4)}, 0, api.ErrOrder},
		{"two calls of a thread in a row", []api.Call{cl(0, 0, 3, 3, 5, 3), cl(0, 1, 6, -1, -1, 0)}, 0, api.OK},
		{"two calls of a thread with a common step", []api.Call{cl(0, 0, 3, 3, 5, 3), cl(0, 1, 5, -1, -1, 0)}, 1, api.ErrOrder},
		{"two calls of a thread that overlap", []api.Call{cl(0, 0, 3, 3, 5, 3), cl(0, 1, 4, -1, -1, 0)}, 1, api.ErrOrder},
		{"a call after a pending one", []api.Call{cl(0, 0, 3, 3, -1, 0), cl(0, 1, 6, -1, -1, 0)}, 1, api.ErrOrder},
		{"a call after one that ended at the greatest step", []api.Call{cl(0, 0, 3, 3, most, 2), cl(0, 1, 6, -1, -1, 0)}, 1, api.ErrOrder},
		{"a call after the pending one of another thread", []api.Call{cl(0, 0, 3, 3, -1, 0), cl(1, 0, 6, -1, -1, 0)}, 0, api.OK},
		{"a beginning at the effect of another thread", []api.Call{cl(0, 0, 3, 4, 5, 3), cl(1, 0, 4, -1, -1, 0)}, 1, api.ErrOrder},
		{"a beginning at the end of another thread", []api.Call{cl(0, 0, 3, 4, 5, 3), cl(1, 0, 5, -1, -1, 0)}, 1, api.ErrOrder},
		{"an effect at the effect of another thread", []api.Call{cl(0, 0, 3, 6, 9, 3), cl(1, 0, 4, 6, -1, 0)}, 1, api.ErrOrder},
		{"an effect at the end of another thread", []api.Call{cl(0, 0, 3, 6, 9, 3), cl(1, 0, 4, 9, -1, 0)}, 1, api.ErrOrder},
		{"an end at the effect of another thread", []api.Call{cl(0, 0, 3, 6, 9, 3), cl(1, 0, 4, 5, 6, 2)}, 1, api.ErrOrder},
		{"an end at the end of another thread", []api.Call{cl(0, 0, 3, 6, 9, 3), cl(1, 0, 4, 5, 9, 2)}, 1, api.ErrOrder},
		{"other steps within those of another thread", []api.Call{cl(0, 0, 3, 6, 9, 3), cl(1, 0, 4, 5, 8, 3)}, 0, api.OK},
		{"a common step with an earlier call of another thread", []api.Call{cl(0, 0, 3, 6, 9, 3), cl(1, 0, 4, -1, -1, 0), cl(0, 1, 10, 12, 13, 2), cl(2, 0, 11, 12, -1, 0)}, 3, api.ErrOrder},
		{"a common step with a call two before", []api.Call{cl(0, 0, 1, 9, -1, 0), cl(1, 0, 2, 3, 4, 2), cl(2, 0, 5, 9, 10, 2)}, 2, api.ErrOrder},
		{"a beginning at a later effect of an earlier call", []api.Call{cl(0, 0, 1, 9, -1, 0), cl(1, 0, 2, 3, 4, 2), cl(1, 1, 9, -1, -1, 0)}, 2, api.ErrOrder},
		{"an index that counts the calls of all threads", []api.Call{cl(0, 0, 1, 1, 1, 1), cl(1, 1, 2, 2, 2, 1)}, 1, api.ErrOrder},
		{"indices from 1 on", []api.Call{cl(0, 1, 1, 1, 1, 1)}, 0, api.ErrOrder},
		{"an index that is left out", []api.Call{cl(0, 0, 1, 1, 1, 1), cl(0, 2, 2, 2, 2, 1)}, 1, api.ErrOrder},
		{"an index that is there twice", []api.Call{cl(0, 0, 1, 1, 1, 1), cl(0, 0, 2, 2, 2, 1)}, 1, api.ErrOrder},
	} {
		gives(t, c.at, c.e, c.what)(Check(c.l...))
		either(t, c.l)
	}
}

// P12.1 to P12.6: histories of many calls, of few and of many threads, and each with one number changed
func TestManyCalls(t *testing.T) {
	runs(func(_ int, l []api.Call) {
		ordered(t, l, stepsOf(l), inOrder(l), effectsOf(l))
		for i := range l {
			c := l[i]
			for _, other := range []api.Call{
				with(cl(c.Thread+1, c.Index, c.Invoked, c.Took, c.Answered, c.Steps), c.Result), with(cl(c.Thread-1, c.Index, c.Invoked, c.Took, c.Answered, c.Steps), c.Result),
				with(cl(c.Thread, c.Index+1, c.Invoked, c.Took, c.Answered, c.Steps), c.Result), with(cl(c.Thread, c.Index-1, c.Invoked, c.Took, c.Answered, c.Steps), c.Result),
				with(cl(c.Thread, c.Index, c.Invoked+1, c.Took, c.Answered, c.Steps), c.Result), with(cl(c.Thread, c.Index, c.Invoked-1, c.Took, c.Answered, c.Steps), c.Result),
				with(cl(c.Thread, c.Index, c.Invoked, c.Took+1, c.Answered, c.Steps), c.Result), with(cl(c.Thread, c.Index, c.Invoked, c.Took-1, c.Answered, c.Steps), c.Result),
				with(cl(c.Thread, c.Index, c.Invoked, c.Took, c.Answered+1, c.Steps), c.Result), with(cl(c.Thread, c.Index, c.Invoked, c.Took, c.Answered-1, c.Steps), c.Result),
				with(cl(c.Thread, c.Index, c.Invoked, c.Took, c.Answered, c.Steps+1), c.Result), with(cl(c.Thread, c.Index, c.Invoked, c.Took, c.Answered, c.Steps-1), c.Result),
				cl(c.Thread, c.Index, c.Invoked, c.Took, -1, 0), with(c, api.Result{Count: 5}),
			} {
				l[i] = other
				checked(t, l...)
			}
			l[i] = c
		}
	})
}

// P12.1 to P12.6: a history of very many calls
func TestVeryManyCalls(t *testing.T) {
	l := run(5, 64, 1<<17)
	end := l[len(l)-1].Invoked
	effects, e := Effects(l...)
	is(t, effectsOf(l), api.OK, "Effects")(effects, e)
	gives(t, 0, api.OK, "Check")(Check(l...))
	gives(t, true, api.OK, "Agrees")(Agrees(effects, l...))
	gives(t, true, api.OK, "Agrees with all")(Agrees(inOrder(l), l...))
	slices.Reverse(effects)
	gives(t, false, api.OK, "Agrees the other way round")(Agrees(effects, l...))
	for _, step := range []int{-1, 0, end / 2, end, most} {
		is(t, until(step, l), api.OK, "Prefix:", step)(Prefix(step, l...))
	}
	is(t, of(63, l), api.OK, "Of")(Of(63, l...), api.OK)
	is(t, pendingOf(l), api.OK, "Pending")(Pending(l...), api.OK)
}

// P12.2: Before with steps of all sorts, whatever the other numbers are
func TestBefore(t *testing.T) {
	for _, answered := range numbers {
		for _, invoked := range numbers {
			want := answered >= 0 && answered < invoked
			for _, other := range numbers {
				a, b := with(cl(other, 3, other, other, answered, other), results[0]), cl(1, other, invoked, other, other, other)
				if got := Before(a, b); got != want || got != precedes(a, b) {
					t.Error("Before:", a, b, got, "and not", want)
				}
			}
		}
	}
}

// P12.3: calls with threads, indices and last steps of all sorts, which need not be well formed
func TestAnyList(t *testing.T) {
	var l []api.Call
	for i, thread := range slices.Concat(noThreads, []int{0, 1, 63, 0, 63, -1, 64, most}) {
		for _, answered := range numbers {
			l = append(l, with(cl(thread, i, answered, i, answered, -i), results[i%len(results)]))
		}
	}
	before := slices.Clone(l)
	for _, thread := range slices.Concat(noThreads, numbers) {
		is(t, of(thread, l), api.OK, "Of:", thread)(Of(thread, l...), api.OK)
	}
	is(t, pendingOf(l), api.OK, "Pending")(Pending(l...), api.OK)
	if !slices.Equal(l, before) {
		t.Error("arguments are changed:", short(before), short(l))
	}
	sequences([]int{-2, -1, 0, 1}, 5, func(list []int) {
		var l []api.Call
		for _, x := range list {
			l = append(l, cl(x, 0, 0, 0, -x, 0))
		}
		anyOrder(t, l)
	})
}

// P12.5: all orders of all histories of a few calls, as far as precedence can tell them apart
func TestOrders(t *testing.T) {
	for n := range 5 {
		orders := permutations(n)
		patterns(n, func(l []api.Call) {
			ordered(t, l, stepsOf(l), orders...)
			ordered(t, joined(l), []int{-1}, orders...)
		})
	}
}

// P12.5: orders with indices that do not exist or come twice, of which the first one counts
func TestWrongOrders(t *testing.T) {
	apart := []api.Call{cl(0, 0, 1, 1, 1, 1), cl(0, 1, 2, 2, 2, 1)}
	within := []api.Call{cl(0, 0, 1, 9, -1, 0), cl(1, 0, 2, 2, 2, 1)}
	for _, l := range [][]api.Call{nil, apart[:1], apart, within} {
		sequences([]int{-1, 0, 1, 2, 3}, 4, func(order []int) { ordered(t, l, nil, order) })
		sequences([]int{least, -1 << 32, 0, 1, 1 << 32, 1<<32 + 1, most}, 3, func(order []int) { ordered(t, l, nil, order) })
	}
	runs(func(_ int, l []api.Call) {
		all := inOrder(l)
		for _, i := range all {
			ordered(t, l, nil, slices.Concat(all, []int{i}), slices.Concat(all[:i], []int{len(l), 0, 0}), slices.Concat(all[:i], []int{0, -1}))
		}
	})
}

// P12.5: orders of many calls: by the steps, parts of them, and with two of them exchanged
func TestLongOrders(t *testing.T) {
	runs(func(_ int, l []api.Call) {
		if len(l) > 70 {
			l = l[:70]
		}
		for _, order := range [][]int{inOrder(l), effectsOf(l)} {
			for i := range order {
				without := slices.Delete(slices.Clone(order), i, i+1)
				ordered(t, l, nil, order[:i], order[i:], without)
				for j := range i {
					other := slices.Clone(order)
					other[i], other[j] = other[j], other[i]
					want, e := agreement(other, l)
					gives(t, want, e, "Agrees:", i, j, order)(Agrees(other, l...))
				}
			}
			back := slices.Clone(order)
			slices.Reverse(back)
			ordered(t, l, nil, back)
		}
	})
}

// P12.6: steps of all sorts
func TestSteps(t *testing.T) {
	for _, l := range [][]api.Call{nil, {cl(3, 0, 0, 0, 0, 1)}, {cl(3, 0, 0, 1, most, 9), cl(4, 0, 2, most-1, -1, 0)}, {cl(3, 0, most-1, most-1, most-1, 1), cl(3, 1, most, most, most, 1)}} {
		ordered(t, l, numbers)
	}
	patterns(3, func(l []api.Call) { ordered(t, l, []int{-2, -3, least, least + 1, -1, 0, most}) })
}

// P12.6: a prefix keeps operations, and leaves results of later ends out
func TestPrefixKeeps(t *testing.T) {
	op := api.Op{Kind: 250, Key: 1, Hi: 2, Value: 3, Old: 4, By: 5, Draw: 6}
	for _, r := range results {
		c := with(cl(3, 0, 2, 4, 6, 3), r)
		c.Op = op
		begun, taken := cl(3, 0, 2, -1, -1, 0), cl(3, 0, 2, 4, -1, 0)
		begun.Op, taken.Op = op, op
		for step, want := range [][]api.Call{nil, nil, {begun}, {begun}, {taken}, {taken}, {c}, {c}} {
			is(t, want, api.OK, "Prefix:", step)(Prefix(step, c))
		}
	}
}

// P12.7: precedence is a strict partial order, and an order of intervals
func TestPartialOrder(t *testing.T) {
	var l []api.Call
	for _, invoked := range []int{-2, -1, 0, 1, 2, 3, most} {
		for _, answered := range []int{least, -2, -1, 0, 1, 2, 3, most} {
			if answered < 0 || answered >= invoked {
				l = append(l, cl(0, 0, invoked, -1, answered, 0))
			}
		}
	}
	for _, a := range l {
		if Before(a, a) {
			t.Error("a call precedes itself:", a)
		}
		for _, b := range l {
			if Before(a, b) && Before(b, a) {
				t.Error("two calls precede each other:", a, b)
			}
			for _, c := range l {
				if Before(a, b) && Before(b, c) && !Before(a, c) {
					t.Error("precedence is not transitive:", a, b, c)
				}
				for _, d := range l {
					if Before(a, b) && Before(c, d) && !Before(a, d) && !Before(c, b) {
						t.Error("precedence is no order of intervals:", a, b, c, d)
					}
				}
			}
		}
	}
}

// effective looks at the effects of a well-formed history.
func effective(t *testing.T, l []api.Call) {
	t.Helper()
	effects, e := Effects(l...)
	agree, f := Agrees(effects, l...)
	if e != api.OK || f != api.OK || !agree {
		t.Error("Effects does not agree with precedence:", short(effects), e, agree, f, short(l))
	}
	for k, i := range effects {
		if l[i].Took < 0 || k > 0 && l[effects[k-1]].Took >= l[i].Took {
			t.Error("Effects is not in the order of the steps:", short(effects), short(l))
		}
	}
	pending := Pending(l...)
	for i, c := range l {
		if !slices.Contains(effects, i) && (c.Took >= 0 || c.Answered >= 0 || !slices.Contains(pending, i)) {
			t.Error("Effects lacks a call:", i, short(effects), short(l))
		}
	}
}

// P12.8: effects come at different steps, agree with precedence, and have all answered calls
func TestEffects(t *testing.T) {
	for n := range 6 {
		patterns(n, func(l []api.Call) {
			effective(t, l)
			effective(t, joined(l))
		})
	}
	runs(func(_ int, l []api.Call) { effective(t, l) })
}

// fronts looks at the prefixes of a well-formed history, and at their prefixes.
func fronts(t *testing.T, l []api.Call) {
	t.Helper()
	steps := stepsOf(l)
	for k, step := range steps {
		front, e := Prefix(step, l...)
		gives(t, 0, e, "Check of a prefix:", step, short(l))(Check(front...))
		effective(t, front)
		for j := max(0, k-12); j < min(len(steps), k+4); j++ {
			want, _ := Prefix(min(step, steps[j]), l...)
			is(t, want, api.OK, "Prefix of a prefix:", step, steps[j], short(l))(Prefix(steps[j], front...))
		}
	}
	is(t, l, api.OK, "Prefix of all steps:", short(l))(Prefix(most, l...))
	is[api.Call](t, nil, api.OK, "Prefix of no steps:", short(l))(Prefix(-1, l...))
}

// P12.9: prefixes are well formed, and a prefix of a prefix is the one with the lesser step
func TestPrefixes(t *testing.T) {
	for n := range 4 {
		patterns(n, func(l []api.Call) {
			fronts(t, l)
			fronts(t, joined(l))
		})
	}
	for _, threads := range []int{1, 2, 5, 64} {
		for seed := range uint64(8) {
			fronts(t, run(seed, threads, 60))
		}
	}
}

// untouched looks whether the results of a call share no memory with its arguments or with each other.
func untouched[T comparable](t *testing.T, name string, l []api.Call, f func() ([]T, api.Errno)) {
	t.Helper()
	before := slices.Clone(l)
	first, e := f()
	want := slices.Clone(first)
	if len(first) == 0 || e != api.OK {
		t.Error(name, first, e)
	}
	for range 3 {
		again, e := f()
		is(t, want, api.OK, "after a change of an earlier result:", name)(again, e)
		var zero T
		again = append(again, zero)
		for i := range again {
			again[i] = zero
		}
	}
	if !slices.Equal(first, want) || !slices.Equal(l, before) {
		t.Error("a change of a result changes another one, or an argument:", name, first, l)
	}
	clear(l)
	if !slices.Equal(first, want) {
		t.Error("a change of an argument changes a result:", name, first)
	}
	copy(l, before)
}

// P12.3, P12.4, P12.6, with R3: memory of results, also of calls whose results are all of their arguments
func TestMemoryOfResults(t *testing.T) {
	l := slices.Grow(run(5, 3, 40), 20)
	one := slices.Grow(run(5, 1, 40), 20)
	untouched(t, "Of", l, func() ([]api.Call, api.Errno) { return Of(1, l...), api.OK })
	untouched(t, "all of Of", one, func() ([]api.Call, api.Errno) { return Of(0, one...), api.OK })
	untouched(t, "Pending", l, func() ([]int, api.Errno) { return Pending(l...), api.OK })
	untouched(t, "Effects", l, func() ([]int, api.Errno) { return Effects(l...) })
	untouched(t, "Prefix", l, func() ([]api.Call, api.Errno) { return Prefix(most, l...) })
	untouched(t, "a part of Prefix", l, func() ([]api.Call, api.Errno) { return Prefix(l[4].Invoked, l...) })
}

// P12.1 to P12.6: arguments that lie in a greater slice
func TestPartsOfSlices(t *testing.T) {
	whole := []api.Call{cl(0, 0, 1, 2, 3, 3), cl(1, 0, 4, 9, 11, 3), cl(0, 1, 5, 6, -1, 0), cl(2, 0, 12, -1, -1, 0)}
	before, all := slices.Clone(whole), []int{0, 2, 1, 3}
	part := whole[:3]
	gives(t, 0, api.OK, "Check")(Check(part...))
	is(t, []int{0, 2, 1}, api.OK, "Effects")(Effects(part...))
	is(t, []int{2}, api.OK, "Pending")(Pending(part...), api.OK)
	is(t, []api.Call{before[0], before[2]}, api.OK, "Of")(Of(0, part...), api.OK)
	is(t, []api.Call{before[0]}, api.OK, "Prefix")(Prefix(3, part...))
	gives(t, true, api.OK, "Agrees")(Agrees(all[:3], part...))
	gives(t, false, api.ErrRange, "Agrees")(Agrees(all, part...))
	if !slices.Equal(whole, before) || !slices.Equal(all, []int{0, 2, 1, 3}) {
		t.Error("what lies beside the arguments is changed:", whole, all)
	}
}

// The examples of the chapter.
func TestExamples(t *testing.T) {
	l := []api.Call{with(cl(0, 0, 0, 4, 7, 4), api.Result{Found: true, Value: 50}), with(cl(1, 0, 1, 5, 5, 2), api.Result{Count: 2}), cl(0, 1, 8, 10, -1, 0), cl(1, 1, 9, -1, -1, 0)}
	gives(t, 0, api.OK, "Check")(Check(l...))
	for a := range l {
		for b := range l {
			if got, want := Before(l[a], l[b]), a < 2 && b >= 2; got != want {
				t.Error("Before:", a, b, got)
			}
		}
	}
	is(t, []int{0, 1, 2}, api.OK, "Effects")(Effects(l...))
	is(t, []int{2, 3}, api.OK, "Pending")(Pending(l...), api.OK)
	for _, order := range permutations(4) {
		first := len(order) < 3 && !slices.Contains(order, 2) && !slices.Contains(order, 3)
		later := len(order) >= 2 && order[0] < 2 && order[1] < 2
		gives(t, first || later, api.OK, "Agrees:", order)(Agrees(order, l...))
	}
	is(t, []api.Call{cl(0, 0, 0, 4, -1, 0), cl(1, 0, 1, -1, -1, 0)}, api.OK, "Prefix(4)")(Prefix(4, l...))
	for _, c := range []struct {
		what     string
		answered int
		took     int
		at       int
	}{{"Answered 1", 1, 4, 0}, {"Took 5", 7, 5, 1}} {
		other := slices.Clone(l)
		other[0].Answered, other[0].Took = c.answered, c.took
		gives(t, c.at, api.ErrOrder, "Check with", c.what)(Check(other...))
	}
	// With Answered 1, a call of four steps would have too many of them as well.
	gives(t, 0, api.ErrOrder, "Check with Answered 1 and two steps")(Check(cl(0, 0, 0, 4, 1, 2)))
}
