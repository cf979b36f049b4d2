package event

import (
	"math"
	"slices"
	"testing"

	"leapfrog/api"
)

const last = math.MaxUint64

// Numbers that are allowed and others. Some of the others become allowed ones if only their lowest bits are looked at.
var (
	noSteps   = []int{-1, -2, -64, -1 << 32, -1<<32 + 5, math.MinInt + 1, math.MinInt}
	steps     = []int{0, 1, 2, 63, 64, 1 << 16, 1<<31 - 1, 1 << 31, 1 << 32, math.MaxInt - 1, math.MaxInt}
	threads   = []int{0, 1, 2, 31, 32, 62, 63}
	noThreads = []int{-1, -2, -64, -256, -1<<32 + 1, math.MinInt, math.MinInt + 1, 64, 65, 128, 256, 1 << 16, 1 << 32, 1<<32 + 1, math.MaxInt}
	values    = []uint64{0, 1, 2, 31, 32, 62, 63}
	noValues  = []uint64{64, 65, 128, 256, 1 << 16, 1 << 32, 1<<32 + 1, 1 << 63, last - 1, last}
)

// ev is an event of a kind that may be none.
func ev(step, thread int, kind uint8, value uint64) api.Event {
	return api.Event{Step: step, Thread: thread, Kind: kind, Value: value}
}

// enter, exit, wait and done are the events of the four kinds.
func enter(step, thread int, value uint64) api.Event { return ev(step, thread, 1, value) }
func exit(step, thread int, value uint64) api.Event  { return ev(step, thread, 2, value) }
func wait(step, thread int, set uint64) api.Event    { return ev(step, thread, 3, set) }
func done(step, thread int, set uint64) api.Event    { return ev(step, thread, 4, set) }

// section is a section that is left at the step to, or is open (-1).
func section(thread int, value uint64, from, to int) api.Section {
	return api.Section{Thread: thread, Value: value, Enter: from, Exit: to}
}

// waiting is a wait that ends at the step to, or does not end (-1).
func waiting(thread int, set uint64, from, to int) api.Wait {
	return api.Wait{Thread: thread, Set: set, From: from, To: to}
}

// beforeOf returns the last event of the same thread among those before i.
func beforeOf(l []api.Event, i int) (api.Event, bool) {
	for j := i - 1; j >= 0; j-- {
		if l[j].Thread == l[i].Thread {
			return l[j], true
		}
	}
	return api.Event{}, false
}

// nextOf returns the step of the first event of a kind and of the same thread behind i, or -1.
func nextOf(l []api.Event, i int, kind uint8) int {
	for _, e := range l[i+1:] {
		if e.Thread == l[i].Thread && e.Kind == kind {
			return e.Step
		}
	}
	return -1
}

// fine is what the document says of the event i of a list whose earlier events are well formed.
func fine(l []api.Event, i int) bool {
	e := l[i]
	if e.Step < 0 || e.Thread < 0 || e.Thread > 63 || e.Kind < 1 || e.Kind > 4 {
		return false
	}
	if i > 0 && e.Step < l[i-1].Step {
		return false
	}
	if i > 0 && e.Step == l[i-1].Step && (l[i-1].Kind != 3 || e.Kind != 4 || e.Thread != l[i-1].Thread) {
		return false
	}
	b, some := beforeOf(l, i)
	reads, waits := some && b.Kind == 1, some && b.Kind == 3
	switch e.Kind {
	case 1:
		return !reads && !waits && e.Value < 64
	case 2:
		return reads && e.Value == b.Value
	case 3:
		return !reads && !waits && e.Value != 0
	}
	return waits && e.Value == b.Value
}

// bad is what the document says of Check: the index of the first event that is not fine.
func bad(l []api.Event) (int, api.Errno) {
	for i := range l {
		if !fine(l, i) {
			return i, api.ErrOrder
		}
	}
	return 0, api.OK
}

// sectionsOf is what the document says of Sections for a well-formed list.
func sectionsOf(l []api.Event) []api.Section {
	var list []api.Section
	for i, e := range l {
		if e.Kind == 1 {
			list = append(list, section(e.Thread, e.Value, e.Step, nextOf(l, i, 2)))
		}
	}
	return list
}

// waitsOf is what the document says of Waits for a well-formed list.
func waitsOf(l []api.Event) []api.Wait {
	var list []api.Wait
	for i, e := range l {
		if e.Kind == 3 {
			list = append(list, waiting(e.Thread, e.Value, e.Step, nextOf(l, i, 4)))
		}
	}
	return list
}

// openOf is what the document says of Open for a well-formed list.
func openOf(step int, l []api.Event) []api.Section {
	var list []api.Section
	for _, s := range sectionsOf(l) {
		if s.Enter <= step && (s.Exit == -1 || s.Exit > step) {
			list = append(list, section(s.Thread, s.Value, s.Enter, -1))
		}
	}
	return list
}

// insideOf is what the document says of Inside for the sections that are open.
func insideOf(thread int, open []api.Section) (api.Section, bool) {
	for _, s := range open {
		if s.Thread == thread {
			return s, true
		}
	}
	return api.Section{}, false
}

// until returns the events up to a step.
func until(step int, l []api.Event) []api.Event {
	return slices.DeleteFunc(slices.Clone(l), func(e api.Event) bool { return e.Step > step })
}

// of returns the events of a thread.
func of(thread int, l []api.Event) []api.Event {
	return slices.DeleteFunc(slices.Clone(l), func(e api.Event) bool { return e.Thread != thread })
}

// short returns the front part of a list that is too long for a message.
func short[T any](l []T) []T {
	return l[:min(len(l), 20)]
}

// is looks whether a call returned a list, or an error.
func is[T comparable](t *testing.T, want []T, wanted api.Errno, what ...any) func(got []T, e api.Errno) {
	return func(got []T, e api.Errno) {
		t.Helper()
		if e != wanted || !slices.Equal(got, want) {
			t.Error(what, short(got), e, "and not", short(want), wanted)
		}
	}
}

// isAt looks whether Check returned an index and an error.
func isAt(t *testing.T, want int, wanted api.Errno, what ...any) func(got int, e api.Errno) {
	return func(got int, e api.Errno) {
		t.Helper()
		if e != wanted || got != want {
			t.Error(what, got, e, "and not", want, wanted)
		}
	}
}

// isIn looks whether Inside returned a section, or none, or an error.
func isIn(t *testing.T, want api.Section, some bool, wanted api.Errno, what ...any) func(got api.Section, in bool, e api.Errno) {
	return func(got api.Section, in bool, e api.Errno) {
		t.Helper()
		if e != wanted || got != want || in != some {
			t.Error(what, got, in, e, "and not", want, some, wanted)
		}
	}
}

// stepsOf returns the steps of a list, those beside them, and the first and the last ones up to which there may be events.
func stepsOf(l []api.Event) []int {
	list := []int{-1, 0, math.MaxInt}
	for _, e := range l {
		list = append(list, e.Step-1, e.Step, max(e.Step, e.Step+1))
	}
	slices.Sort(list)
	return slices.Compact(list)
}

// threadsOf returns the threads of a list and some more.
func threadsOf(l []api.Event) []int {
	list := []int{0, 1, 63}
	for _, e := range l {
		list = append(list, e.Thread)
	}
	slices.Sort(list)
	return slices.Compact(list)
}

// ordered looks at all calls for a well-formed list, after each of the steps and for each of the threads.
func ordered(t *testing.T, l []api.Event, steps, threads []int) {
	t.Helper()
	before := slices.Clone(l)
	isAt(t, 0, api.OK, "Check:", short(l))(Check(l...))
	is(t, sectionsOf(l), api.OK, "Sections:", short(l))(Sections(l...))
	is(t, waitsOf(l), api.OK, "Waits:", short(l))(Waits(l...))
	for _, step := range steps {
		open := openOf(step, l)
		is(t, open, api.OK, "Open:", step, short(l))(Open(step, l...))
		is(t, until(step, l), api.OK, "Prefix:", step, short(l))(Prefix(step, l...))
		for _, thread := range threads {
			want, some := insideOf(thread, open)
			isIn(t, want, some, api.OK, "Inside:", thread, step, short(l))(Inside(thread, step, l...))
		}
	}
	parts(t, l, threads)
	if !slices.Equal(l, before) {
		t.Error("arguments are changed:", short(before), short(l))
	}
}

// parts looks at Of, for any list.
func parts(t *testing.T, l []api.Event, threads []int) {
	t.Helper()
	for _, thread := range threads {
		if got, want := Of(thread, l...), of(thread, l); !slices.Equal(got, want) {
			t.Error("Of:", thread, short(l), short(got), "and not", short(want))
		}
	}
}

// spoiled looks at all calls for a list that is not well formed, with threads and steps that are allowed and with others.
func spoiled(t *testing.T, at int, l []api.Event) {
	t.Helper()
	isAt(t, at, api.ErrOrder, "Check:", short(l))(Check(l...))
	is[api.Section](t, nil, api.ErrOrder, "Sections:", short(l))(Sections(l...))
	is[api.Wait](t, nil, api.ErrOrder, "Waits:", short(l))(Waits(l...))
	for _, step := range []int{-1, 0, math.MaxInt, -2, math.MinInt} {
		is[api.Section](t, nil, api.ErrOrder, "Open:", step, short(l))(Open(step, l...))
		is[api.Event](t, nil, api.ErrOrder, "Prefix:", step, short(l))(Prefix(step, l...))
		for _, thread := range []int{0, -1, 64} {
			isIn(t, api.Section{}, false, api.ErrOrder, "Inside:", thread, step, short(l))(Inside(thread, step, l...))
		}
	}
}

// either looks at all calls for a list that may be well formed.
func either(t *testing.T, l []api.Event) {
	t.Helper()
	if at, e := bad(l); e != api.OK {
		spoiled(t, at, l)
		parts(t, l, threadsOf(l))
		return
	}
	ordered(t, l, stepsOf(l), threadsOf(l))
}

// grow calls f with all well-formed lists of at most n events, and with each of them and one more event, whose numbers are some of all.
func grow(n int, threads []int, values []uint64, f func(l []api.Event)) {
	var more func(l []api.Event)
	more = func(l []api.Event) {
		f(l)
		if _, e := bad(l); e != api.OK || len(l) > n {
			return
		}
		step := -1
		if len(l) > 0 {
			step = l[len(l)-1].Step
		}
		for _, next := range []int{step - 1, step, step + 1, step + 3} {
			for _, thread := range threads {
				for kind := range uint8(6) {
					for _, value := range values {
						more(append(slices.Clone(l), ev(next, thread, kind, value)))
					}
				}
			}
		}
	}
	more(nil)
}

// draws returns a function that returns numbers below n without a visible order.
func draws(seed uint64) func(n int) int {
	x := seed
	return func(n int) int {
		x = x*6364136223846793005 + 1442695040888963407
		return int(x>>33) % n
	}
}

// history returns a well-formed list of n events of some threads.
func history(seed uint64, threads, n int) []api.Event {
	draw := draws(seed)
	var list []api.Event
	var begun [64]api.Event
	step := draw(3)
	for range n {
		e := ev(step, draw(threads), 0, 0)
		b := begun[e.Thread]
		switch {
		case b.Kind != 0:
			e.Kind, e.Value = b.Kind+1, b.Value
			// With no step between them a wait may also be one of one step.
			if b.Kind == 3 && b.Step == step-1 && draw(2) == 0 {
				e.Step = b.Step
			}
			begun[e.Thread] = api.Event{}
		case draw(2) == 0:
			e.Kind, e.Value = 1, uint64(draw(64))
			begun[e.Thread] = e
		default:
			e.Kind, e.Value = 3, 1<<draw(64)|uint64(draw(1000))
			begun[e.Thread] = e
		}
		list = append(list, e)
		step = e.Step + 1 + draw(4)/3*draw(5)
	}
	return list
}

// histories calls f with lists of many events, of few and of many threads.
func histories(f func(threads int, l []api.Event)) {
	for _, threads := range []int{1, 2, 3, 8, 64} {
		for seed := range uint64(12) {
			f(threads, history(seed, threads, 20+10*int(seed)))
		}
	}
}

// P11.1 to P11.4: the empty list
func TestNoEvents(t *testing.T) {
	var all []int
	for thread := range 64 {
		all = append(all, thread)
	}
	for _, l := range [][]api.Event{nil, {}} {
		ordered(t, l, append([]int{-1}, steps...), all)
		parts(t, l, noThreads)
	}
}

// P11.1: one event with each kind, and with steps, threads and values of all sorts
func TestOneEvent(t *testing.T) {
	for kind := range 256 {
		for _, step := range slices.Concat(steps, noSteps) {
			for _, thread := range slices.Concat(threads, noThreads) {
				for _, value := range slices.Concat(values, noValues) {
					l := []api.Event{ev(step, thread, uint8(kind), value)}
					at, e := bad(l)
					isAt(t, at, e, "Check:", l)(Check(l...))
				}
			}
		}
	}
}

// P11.1: the second event, with steps, threads and values of all sorts
func TestSecondEvent(t *testing.T) {
	kinds := []uint8{0, 1, 2, 3, 4, 5, 6, 129, 130, 131, 132, 255}
	for _, first := range []api.Event{enter(64, 1, 0), enter(64, 1, 63), wait(64, 1, 1), wait(64, 1, last), enter(math.MaxInt, 1, 1), wait(math.MaxInt, 1, 1)} {
		for _, kind := range kinds {
			for _, step := range slices.Concat(steps, noSteps) {
				for _, thread := range slices.Concat(threads, noThreads) {
					for _, value := range slices.Concat(values, noValues) {
						l := []api.Event{first, ev(step, thread, kind, value)}
						at, e := bad(l)
						isAt(t, at, e, "Check:", l)(Check(l...))
					}
				}
			}
		}
	}
}

// P11.1 to P11.4: every thread with every value, and sets with few values and with many
func TestEveryThread(t *testing.T) {
	for thread := range 64 {
		for value := range uint64(64) {
			l := []api.Event{
				enter(2, thread, value), exit(3, thread, value),
				wait(5, thread, 1<<value), done(5, thread, 1<<value),
				wait(6, thread, last-value), done(9, thread, last-value),
				enter(10, thread, 63-value),
			}
			ordered(t, l, []int{1, 2, 3, 4, 10, 11}, []int{thread, 63 - thread})
		}
	}
}

// P11.1 to P11.4: all lists of a few events of two threads
func TestFewEvents(t *testing.T) {
	grow(3, []int{0, 1}, []uint64{0, 1}, func(l []api.Event) { either(t, l) })
}

// P11.1 to P11.4: all lists of a few events of threads and with values at the limits
func TestFewEventsAtLimits(t *testing.T) {
	grow(2, []int{-1, 0, 63, 64}, []uint64{0, 63, 64}, func(l []api.Event) { either(t, l) })
}

// P11.1 to P11.4: all lists of more events of one thread
func TestFewEventsOfOneThread(t *testing.T) {
	grow(5, []int{5}, []uint64{1}, func(l []api.Event) { either(t, l) })
	grow(4, []int{5}, []uint64{0, 1, 2}, func(l []api.Event) { either(t, l) })
}

// P11.1: what comes after the first event that is not well formed does not matter
func TestFirstOfSeveral(t *testing.T) {
	good := []api.Event{enter(1, 0, 3), wait(2, 1, 8), exit(4, 0, 3), done(5, 1, 8)}
	wrong := []api.Event{
		enter(-1, 0, 0), enter(6, -1, 0), enter(6, 64, 0), ev(6, 0, 0, 0), ev(6, 0, 5, 0), enter(0, 0, 0),
		enter(6, 2, 64), exit(6, 2, 3), wait(6, 2, 0), done(6, 2, 8), exit(6, 1, 8), done(6, 0, 3),
	}
	for _, w := range wrong {
		for i := range len(good) + 1 {
			l := slices.Insert(slices.Clone(good), i, w)
			at, e := bad(l)
			// At the front, the step 0 is allowed, but not the event behind it any more.
			if e != api.ErrOrder || at > i+1 {
				t.Fatal("the list is well formed up to this event:", i, l)
			}
			spoiled(t, at, l)
			spoiled(t, at, slices.Concat(l, wrong))
		}
	}
}

// P11.1: what may be at the same step
func TestSameStep(t *testing.T) {
	for _, c := range []struct {
		what string
		l    []api.Event
		at   int
		e    api.Errno
	}{
		{"a wait of one step", []api.Event{wait(3, 2, 9), done(3, 2, 9)}, 0, api.OK},
		{"a wait of the step 0", []api.Event{wait(0, 2, 9), done(0, 2, 9), enter(1, 2, 9)}, 0, api.OK},
		{"several of them", []api.Event{wait(3, 2, 9), done(3, 2, 9), wait(4, 2, 9), done(4, 2, 9), wait(5, 1, 1), done(5, 1, 1)}, 0, api.OK},
		{"the end of a wait of another thread", []api.Event{wait(2, 1, 9), wait(3, 2, 9), done(3, 1, 9)}, 2, api.ErrOrder},
		{"the end with another set", []api.Event{wait(3, 2, 9), done(3, 2, 8)}, 1, api.ErrOrder},
		{"two ends", []api.Event{wait(3, 2, 9), done(3, 2, 9), done(3, 2, 9)}, 2, api.ErrOrder},
		{"an end and the next wait", []api.Event{wait(3, 2, 9), done(3, 2, 9), wait(3, 2, 9)}, 2, api.ErrOrder},
		{"an end and a section", []api.Event{wait(3, 2, 9), done(3, 2, 9), enter(3, 1, 9)}, 2, api.ErrOrder},
		{"something between", []api.Event{wait(3, 2, 9), enter(3, 1, 9), done(3, 2, 9)}, 1, api.ErrOrder},
		{"two waits", []api.Event{wait(3, 2, 9), wait(3, 1, 9)}, 1, api.ErrOrder},
		{"an exit with a wait", []api.Event{enter(2, 1, 9), wait(3, 2, 9), exit(3, 1, 9)}, 2, api.ErrOrder},
		{"a section of one step", []api.Event{enter(3, 2, 9), exit(3, 2, 9)}, 1, api.ErrOrder},
		{"a section and the end of a wait", []api.Event{wait(2, 2, 9), enter(3, 1, 9), done(3, 2, 9)}, 2, api.ErrOrder},
		{"a step before a wait of one step", []api.Event{wait(3, 2, 9), done(2, 2, 9)}, 1, api.ErrOrder},
	} {
		isAt(t, c.at, c.e, c.what)(Check(c.l...))
	}
}

// P11.1 to P11.4: lists of many events, of few and of many threads
func TestManyEvents(t *testing.T) {
	histories(func(_ int, l []api.Event) { ordered(t, l, stepsOf(l), []int{0, 1, 2, 7, 40, 63}) })
	long := history(99, 64, 1<<17)
	end := long[len(long)-1].Step
	ordered(t, long, []int{-1, 0, end / 2, end - 1, end, math.MaxInt}, []int{0, 63})
}

// P11.1: lists of many events of which one is changed
func TestSpoiledEvents(t *testing.T) {
	histories(func(_ int, l []api.Event) {
		for i := range l {
			e := l[i]
			for _, other := range []api.Event{
				ev(e.Step-1, e.Thread, e.Kind, e.Value), ev(e.Step+1, e.Thread, e.Kind, e.Value), ev(-1, e.Thread, e.Kind, e.Value),
				ev(e.Step, e.Thread+1, e.Kind, e.Value), ev(e.Step, 64, e.Kind, e.Value), ev(e.Step, -1, e.Kind, e.Value),
				ev(e.Step, e.Thread, e.Kind-1, e.Value), ev(e.Step, e.Thread, e.Kind+1, e.Value), ev(e.Step, e.Thread, e.Kind^2, e.Value),
				ev(e.Step, e.Thread, e.Kind, e.Value+1), ev(e.Step, e.Thread, e.Kind, e.Value+64), ev(e.Step, e.Thread, e.Kind, 0),
			} {
				l[i] = other
				at, wanted := bad(l)
				isAt(t, at, wanted, "Check:", i, other, "for", e)(Check(l...))
			}
			l[i] = e
		}
	})
}

// P11.3, P11.4: threads and steps that are not allowed, and which of them is looked at first
func TestErrors(t *testing.T) {
	none := api.Section{}
	for _, l := range [][]api.Event{nil, {enter(0, 0, 1)}, {enter(1, 0, 3), wait(2, 63, 8), exit(4, 0, 3)}} {
		for _, step := range noSteps[1:] {
			is[api.Section](t, nil, api.ErrRange, "Open:", step, l)(Open(step, l...))
			is[api.Event](t, nil, api.ErrRange, "Prefix:", step, l)(Prefix(step, l...))
			for _, thread := range threads {
				isIn(t, none, false, api.ErrRange, "Inside:", thread, step, l)(Inside(thread, step, l...))
			}
		}
		for _, thread := range noThreads {
			for _, step := range slices.Concat(steps, noSteps) {
				isIn(t, none, false, api.ErrArg, "Inside:", thread, step, l)(Inside(thread, step, l...))
			}
		}
	}
	broken := []api.Event{enter(1, 0, 3), exit(4, 0, 2)}
	for _, step := range slices.Concat(steps, noSteps) {
		is[api.Section](t, nil, api.ErrOrder, "Open:", step)(Open(step, broken...))
		is[api.Event](t, nil, api.ErrOrder, "Prefix:", step)(Prefix(step, broken...))
		for _, thread := range slices.Concat(threads, noThreads) {
			isIn(t, none, false, api.ErrOrder, "Inside:", thread, step)(Inside(thread, step, broken...))
		}
	}
}

// P11.4: Of for lists that are not well formed, and for threads that are not allowed
func TestOfAnyList(t *testing.T) {
	draw := draws(7)
	all := slices.Concat(threads, noThreads)
	var l []api.Event
	for i := range 500 {
		l = append(l, ev(i^draw(400)-200, all[draw(len(all))], uint8(draw(256)), uint64(draw(3))))
	}
	parts(t, l, all)
	parts(t, l, []int{3, 66, -3})
	parts(t, []api.Event{ev(5, 64, 9, 1), ev(4, -1, 9, 1), ev(3, 64, 9, 1), ev(3, 64, 9, 1)}, all)
}

// P11.2, P11.3: a section that ends with the first event after others began, one that stays open, and the steps about its ends
func TestOpenAndInside(t *testing.T) {
	l := []api.Event{enter(5, 1, 7), enter(6, 0, 7), exit(9, 1, 7), enter(12, 1, 7), wait(13, 2, 128)}
	is(t, []api.Section{section(1, 7, 5, 9), section(0, 7, 6, -1), section(1, 7, 12, -1)}, api.OK, "Sections")(Sections(l...))
	is(t, []api.Wait{waiting(2, 128, 13, -1)}, api.OK, "Waits")(Waits(l...))
	first, second, third := section(1, 7, 5, -1), section(0, 7, 6, -1), section(1, 7, 12, -1)
	for step, want := range map[int][]api.Section{
		-1: nil, 4: nil, 5: {first}, 6: {first, second}, 8: {first, second}, 9: {second}, 11: {second}, 12: {second, third}, 13: {second, third}, math.MaxInt: {second, third},
	} {
		is(t, want, api.OK, "Open:", step)(Open(step, l...))
	}
	isIn(t, first, true, api.OK, "Inside")(Inside(1, 8, l...))
	isIn(t, api.Section{}, false, api.OK, "Inside")(Inside(1, 9, l...))
	isIn(t, third, true, api.OK, "Inside")(Inside(1, 12, l...))
	isIn(t, second, true, api.OK, "Inside")(Inside(0, 12, l...))
	isIn(t, api.Section{}, false, api.OK, "Inside of a thread that waits")(Inside(2, 13, l...))
}

// P11.5: prefixes are well formed, and have the sections and waits that were begun by then
func TestPrefixes(t *testing.T) {
	histories(func(_ int, l []api.Event) {
		sections, _ := Sections(l...)
		waits, _ := Waits(l...)
		for _, step := range stepsOf(l) {
			front, e := Prefix(step, l...)
			isAt(t, 0, e, "Check of a prefix:", step)(Check(front...))
			var entered, open []api.Section
			for _, s := range sections {
				if s.Exit > step {
					s.Exit = -1
				}
				if s.Enter <= step {
					entered = append(entered, s)
				}
				if s.Enter <= step && s.Exit == -1 {
					open = append(open, s)
				}
			}
			var invoked []api.Wait
			for _, w := range waits {
				if w.To > step {
					w.To = -1
				}
				if w.From <= step {
					invoked = append(invoked, w)
				}
			}
			is(t, entered, api.OK, "Sections of a prefix:", step)(Sections(front...))
			is(t, invoked, api.OK, "Waits of a prefix:", step)(Waits(front...))
			is(t, open, api.OK, "Open:", step)(Open(step, l...))
			is(t, open, api.OK, "Open of a prefix:", step)(Open(math.MaxInt, front...))
		}
		// A part of a list that ends between the two events of one step is well formed as well.
		for n := range l {
			isAt(t, 0, api.OK, "Check of the first events:", n)(Check(l[:n]...))
		}
	})
}

// P11.6: sections and waits of a thread do not overlap
func TestNoOverlap(t *testing.T) {
	type span struct{ from, to int }
	histories(func(_ int, l []api.Event) {
		sections, e := Sections(l...)
		waits, f := Waits(l...)
		var spans [64][]span
		for _, s := range sections {
			spans[s.Thread] = append(spans[s.Thread], span{s.Enter, s.Exit})
		}
		for _, w := range waits {
			spans[w.Thread] = append(spans[w.Thread], span{w.From, w.To})
		}
		total := 0
		for thread, some := range spans {
			slices.SortFunc(some, func(a, b span) int { return a.from - b.from })
			for i, s := range some {
				total++
				if s.to != -1 {
					total++
				}
				if i+1 < len(some) && (s.to == -1 || s.to >= some[i+1].from) || s.to != -1 && s.to < s.from {
					t.Error("they overlap:", thread, some)
				}
			}
		}
		if total != len(l) || e != api.OK || f != api.OK {
			t.Error("the sections and waits have fewer events than the list, or more:", total, len(l), e, f)
		}
	})
}

// P11.6: Of returns well-formed lists, which have all events together
func TestOfAllThreads(t *testing.T) {
	histories(func(threads int, l []api.Event) {
		var all []api.Event
		for thread := range 64 {
			part := Of(thread, l...)
			isAt(t, 0, api.OK, "Check of the events of a thread:", thread)(Check(part...))
			if thread >= threads && len(part) > 0 {
				t.Error("events of a thread that has none:", thread, part)
			}
			all = append(all, part...)
		}
		slices.SortStableFunc(all, func(a, b api.Event) int { return a.Step - b.Step })
		if !slices.Equal(all, l) {
			t.Error("the events of all threads are not all events:", short(all), short(l))
		}
	})
}

// P11.7: at most one section of a thread is open, and Inside returns it
func TestOneOpenSection(t *testing.T) {
	histories(func(_ int, l []api.Event) {
		for _, step := range stepsOf(l) {
			open, _ := Open(step, l...)
			var of [64][]api.Section
			for _, s := range open {
				of[s.Thread] = append(of[s.Thread], s)
			}
			for thread, some := range of {
				if len(some) > 1 {
					t.Error("several sections are open:", thread, step, some)
				}
				want := append(some, api.Section{})[0]
				isIn(t, want, len(some) == 1, api.OK, "Inside:", thread, step)(Inside(thread, step, l...))
			}
		}
	})
}

// untouched looks whether the results of a call share no memory with its arguments or with each other.
func untouched[T comparable](t *testing.T, name string, l []api.Event, f func() ([]T, api.Errno)) {
	t.Helper()
	before := slices.Clone(l)
	first, e := f()
	want := slices.Clone(first)
	if len(first) == 0 || e != api.OK {
		t.Error(name, first, e)
	}
	for range 3 {
		again, e := f()
		is(t, want, api.OK, "after a change of an earlier result:", name)(again, e)
		var zero T
		again = append(again, zero)
		for i := range again {
			again[i] = zero
		}
	}
	if !slices.Equal(first, want) || !slices.Equal(l, before) {
		t.Error("a change of a result changes another one, or an argument:", name, first, l)
	}
	clear(l)
	if !slices.Equal(first, want) {
		t.Error("a change of an argument changes a result:", name, first)
	}
	copy(l, before)
}

// P11.2 to P11.4, with R3: memory of results, also of calls whose results are all of their arguments
func TestMemoryOfResults(t *testing.T) {
	l := slices.Grow(history(5, 1, 9), 20)
	untouched(t, "Sections", l, func() ([]api.Section, api.Errno) { return Sections(l...) })
	untouched(t, "Waits", l, func() ([]api.Wait, api.Errno) { return Waits(l...) })
	untouched(t, "Prefix", l, func() ([]api.Event, api.Errno) { return Prefix(math.MaxInt, l...) })
	untouched(t, "a part of Prefix", l, func() ([]api.Event, api.Errno) { return Prefix(l[4].Step, l...) })
	untouched(t, "Of", l, func() ([]api.Event, api.Errno) { return Of(0, l...), api.OK })
	open := l[:slices.IndexFunc(l, func(e api.Event) bool { return e.Kind == 1 })+1]
	untouched(t, "Open", open, func() ([]api.Section, api.Errno) { return Open(math.MaxInt, open...) })
}

// P11.1 to P11.4: arguments that lie in a greater slice
func TestPartsOfSlices(t *testing.T) {
	whole := []api.Event{enter(1, 0, 3), exit(4, 0, 3), enter(5, 0, 9), exit(6, 0, 9)}
	before := slices.Clone(whole)
	part := whole[:3]
	isAt(t, 0, api.OK, "Check")(Check(part...))
	is(t, []api.Section{section(0, 3, 1, 4), section(0, 9, 5, -1)}, api.OK, "Sections")(Sections(part...))
	is(t, []api.Section{section(0, 9, 5, -1)}, api.OK, "Open")(Open(6, part...))
	is(t, before[:2], api.OK, "Prefix")(Prefix(4, part...))
	isAt(t, 0, api.ErrOrder, "Check")(Check(whole[1:]...))
	if !slices.Equal(whole, before) {
		t.Error("what lies beside the arguments is changed:", whole)
	}
}

// The examples of the chapter.
func TestExamples(t *testing.T) {
	l := []api.Event{enter(1, 0, 3), wait(2, 1, 8), exit(4, 0, 3), done(5, 1, 8), wait(7, 1, 1), done(7, 1, 1)}
	isAt(t, 0, api.OK, "Check")(Check(l...))
	is(t, []api.Section{section(0, 3, 1, 4)}, api.OK, "Sections")(Sections(l...))
	is(t, []api.Wait{waiting(1, 8, 2, 5), waiting(1, 1, 7, 7)}, api.OK, "Waits")(Waits(l...))
	is(t, []api.Section{section(0, 3, 1, -1)}, api.OK, "Open(1)")(Open(1, l...))
	is[api.Section](t, nil, api.OK, "Open(4)")(Open(4, l...))
	isIn(t, section(0, 3, 1, -1), true, api.OK, "Inside(0, 3)")(Inside(0, 3, l...))
	isIn(t, api.Section{}, false, api.OK, "Inside(1, 3)")(Inside(1, 3, l...))
	// The table of the chapter has the index 3 here, but P11.1 gives 0 for every well-formed list, as the first example does.
	isAt(t, 0, api.OK, "without the third event")(Check(slices.Delete(slices.Clone(l), 2, 3)...))
	third := slices.Clone(l)
	third[2].Value = 2
	isAt(t, 2, api.ErrOrder, "with Value 2 in the third event")(Check(third...))
	isAt(t, 1, api.ErrOrder, "without the first one")(Check(l[1:]...))
	is(t, l, api.OK, "Prefix(7)")(Prefix(7, l...))
	is(t, l[:2], api.OK, "Prefix(3)")(Prefix(3, l...))
	is[api.Event](t, nil, api.ErrRange, "Prefix(-2)")(Prefix(-2, l...))
}
