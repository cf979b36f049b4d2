package picks

import (
	"iter"
	"math"
	"math/big"
	"slices"
	"testing"

	"leapfrog/api"
)

const last = math.MaxUint64

// Numbers that are allowed and others. Some of the others become allowed ones if only their lowest bits are looked at.
var (
	machines = []int{0, -1, -2, -64, math.MinInt, math.MinInt + 1, 65, 66, 128, 256, 257, 1<<16 + 1, 1 << 32, 1<<32 + 2, math.MaxInt, math.MaxInt - 1}
	negative = []int{-1, -2, -64, -1 << 16, -1<<32 + 3, math.MinInt + 1, math.MinInt}
	tooMany  = []int{1<<16 + 1, 1<<16 + 2, 1 << 17, 1 << 32, 1<<32 + 1, math.MaxInt - 1, math.MaxInt}
	allowed  = []int{0, 1, 2, 3, 7, 64, 65, 100, 1000, 1<<16 - 1, 1 << 16}
)

// edges are picks at both ends of the ints, about powers of 2, and from -200 to 200.
func edges() []int {
	var list []int
	for p := -200; p <= 200; p++ {
		list = append(list, p)
	}
	for n := range 63 {
		list = append(list, 1<<n-1, 1<<n, 1<<n+1, -1<<n-1, -1<<n, -1<<n+1)
	}
	for n := range 70 {
		list = append(list, math.MinInt+n, math.MaxInt-n)
	}
	return list
}

// seeds are seeds about the powers of 2 and at both ends of the numbers.
func seeds() []uint64 {
	list := []uint64{0, last, 5, 12345678901234567890}
	for n := range 64 {
		list = append(list, 1<<n-1, 1<<n, ^uint64(1<<n))
	}
	return list
}

// some returns n picks without a visible order, small and great ones, of both signs.
func some(seed uint64, n int) []int {
	var list []int
	x := seed
	for range n {
		x = x*6364136223846793005 + 1442695040888963407
		list = append(list, int(x^x>>29)>>(x>>58))
	}
	return list
}

// lists calls f with all lists of at most n numbers from lo to hi.
func lists(n, lo, hi int, f func(l []int)) {
	var grow func(l []int)
	grow = func(l []int) {
		f(l)
		if len(l) == n {
			return
		}
		for p := lo; p <= hi; p++ {
			grow(append(slices.Clone(l), p))
		}
	}
	grow(nil)
}

// mod is what the document says of the thread that a pick chooses, in numbers that have no bounds.
func mod(threads, pick int) int {
	return int(new(big.Int).Mod(big.NewInt(int64(pick)), big.NewInt(int64(threads))).Int64())
}

// mods returns the threads that picks choose.
func mods(threads int, picks []int) []int {
	var list []int
	for _, p := range picks {
		list = append(list, mod(threads, p))
	}
	return list
}

// count returns how many of the numbers are n.
func count(l []int, n int) int {
	total := 0
	for _, x := range l {
		if x == n {
			total++
		}
	}
	return total
}

// without returns the picks that choose another thread.
func without(threads, thread int, picks []int) []int {
	return slices.DeleteFunc(slices.Clone(picks), func(p int) bool { return mod(threads, p) == thread })
}

// windows yields all lists of k consecutive threads.
func windows(chosen []int, k int) iter.Seq[[]int] {
	return func(yield func([]int) bool) {
		for i := 0; i+k <= len(chosen); i++ {
			if !yield(chosen[i : i+k]) {
				return
			}
		}
	}
}

// gap returns how many picks lie at most between two that choose a thread, or beside all of those.
func gap(chosen []int, thread int) int {
	longest, before := 0, -1
	for i := range len(chosen) + 1 {
		if i == len(chosen) || chosen[i] == thread {
			longest = max(longest, i-before-1)
			before = i
		}
	}
	return longest
}

// mixed is what the document says of the picks of a seed, in numbers that have no bounds.
func mixed(seed uint64, threads, n int) []int {
	x := new(big.Int).SetUint64(seed)
	size := new(big.Int).Lsh(big.NewInt(1), 64)
	var list []int
	for range n {
		x.Mul(x, big.NewInt(2862933555777941757)).Add(x, big.NewInt(3037000493)).Mod(x, size)
		half := new(big.Int).Quo(x, big.NewInt(1<<33))
		list = append(list, int(half.Mod(half, big.NewInt(int64(threads))).Int64()))
	}
	return list
}

// expanded is what the document says of Expand for lists whose counts do not wrap around.
func expanded(l []int) ([]int, api.Errno) {
	sum := new(big.Int)
	for i, n := range l {
		if i%2 == 1 {
			sum.Add(sum, big.NewInt(int64(n)))
		}
		if i%2 == 1 && n < 0 {
			return nil, api.ErrArg
		}
	}
	if len(l)%2 == 1 {
		return nil, api.ErrArg
	}
	if sum.Cmp(big.NewInt(65536)) > 0 {
		return nil, api.ErrLong
	}
	var list []int
	for i := 0; i < len(l); i += 2 {
		for range l[i+1] {
			list = append(list, l[i])
		}
	}
	return list, api.OK
}

// is looks whether a call returned a list, or an error.
func is(t *testing.T, want []int, wanted api.Errno, what ...any) func(got []int, e api.Errno) {
	return func(got []int, e api.Errno) {
		t.Helper()
		if e != wanted || !slices.Equal(got, want) {
			t.Error(what, short(got), e, "and not", short(want), wanted)
		}
	}
}

// isNumber looks whether a call returned a number, or an error.
func isNumber(t *testing.T, want int, wanted api.Errno, what ...any) func(got int, e api.Errno) {
	return func(got int, e api.Errno) {
		t.Helper()
		if e != wanted || got != want {
			t.Error(what, got, e, "and not", want, wanted)
		}
	}
}

// short returns the front part of a list that is too long for a message.
func short(l []int) []int {
	return l[:min(len(l), 20)]
}

// P10.1: every number of threads with all edges
func TestThread(t *testing.T) {
	for threads := 1; threads <= 64; threads++ {
		for _, p := range edges() {
			isNumber(t, mod(threads, p), api.OK, "Thread:", threads, p)(Thread(threads, p))
		}
	}
}

// P10.1, P10.2: what Chosen, Counts, Gap and Without return for some picks, for every thread
func check(t *testing.T, threads int, picks []int) {
	t.Helper()
	before := slices.Clone(picks)
	chosen := mods(threads, picks)
	var counts []int
	for thread := range threads {
		counts = append(counts, count(chosen, thread))
		isNumber(t, gap(chosen, thread), api.OK, "Gap:", threads, thread, short(picks))(Gap(threads, thread, picks...))
		is(t, without(threads, thread, picks), api.OK, "Without:", threads, thread, short(picks))(Without(threads, thread, picks...))
	}
	is(t, chosen, api.OK, "Chosen:", threads, short(picks))(Chosen(threads, picks...))
	is(t, counts, api.OK, "Counts:", threads, short(picks))(Counts(threads, picks...))
	if !slices.Equal(picks, before) {
		t.Error("arguments are changed:", short(before), short(picks))
	}
}

// P10.1, P10.2: all lists of a few picks
func TestFewPicks(t *testing.T) {
	for threads := 1; threads <= 4; threads++ {
		lists(4, -4, 5, func(l []int) { check(t, threads, l) })
	}
	for threads := 2; threads <= 3; threads++ {
		lists(8, -1, threads-2, func(l []int) { check(t, threads, l) })
	}
}

// P10.1, P10.2: every number of threads with no picks, with each one alone, and with many
func TestEveryMachine(t *testing.T) {
	for threads := 1; threads <= 64; threads++ {
		check(t, threads, nil)
		check(t, threads, []int{})
		check(t, threads, edges())
		check(t, threads, some(uint64(threads), 200))
		for _, p := range []int{math.MinInt, -65, -64, -1, 0, 1, 63, 64, math.MaxInt} {
			check(t, threads, []int{p})
		}
	}
}

// P10.1, P10.2: as many picks as there may be
func TestManyPicks(t *testing.T) {
	for _, n := range []int{1<<16 - 1, 1 << 16} {
		for _, threads := range []int{1, 2, 63, 64} {
			picks := slices.Repeat([]int{-1}, n)
			picks[n/2] = 0
			chosen := mods(threads, picks)
			counts := make([]int, threads)
			counts[threads-1] += n - 1
			counts[0]++
			is(t, chosen, api.OK, "Chosen:", threads, n)(Chosen(threads, picks...))
			is(t, counts, api.OK, "Counts:", threads, n)(Counts(threads, picks...))
			is(t, without(threads, 0, picks), api.OK, "Without:", threads, n)(Without(threads, 0, picks...))
			want := 0
			if threads > 1 {
				want = max(n/2, n-1-n/2)
			}
			isNumber(t, want, api.OK, "Gap:", threads, n)(Gap(threads, 0, picks...))
			if threads > 2 {
				isNumber(t, n, api.OK, "Gap of all picks:", threads, n)(Gap(threads, 1, picks...))
			}
		}
	}
}

// refused looks whether all functions that are given a thread or picks return an error; Chosen and Counts only if the thread is not the cause.
func refused(t *testing.T, e api.Errno, threads, thread int, picks []int) {
	t.Helper()
	isNumber(t, 0, e, "Gap:", threads, thread, len(picks))(Gap(threads, thread, picks...))
	is(t, nil, e, "Without:", threads, thread, len(picks))(Without(threads, thread, picks...))
	if thread == 0 {
		is(t, nil, e, "Chosen:", threads, len(picks))(Chosen(threads, picks...))
		is(t, nil, e, "Counts:", threads, len(picks))(Counts(threads, picks...))
	}
}

// P10.1, P10.2: numbers of threads and threads that are not allowed, and too many picks, which come after them
func TestErrors(t *testing.T) {
	long := make([]int, 1<<17)
	for _, picks := range [][]int{nil, {}, {0}, {-1, 1, 2}, long[:1<<16], long[:1<<16+1], long} {
		for _, threads := range machines {
			for _, thread := range []int{0, 1, -1, threads, threads - 1, threads + 1, math.MaxInt, math.MinInt} {
				refused(t, api.ErrArg, threads, thread, picks)
			}
		}
		for threads := 1; threads <= 64; threads++ {
			for _, thread := range append([]int{threads, threads + 1, 2 * threads, 64, 1 << 32, math.MaxInt}, negative...) {
				refused(t, api.ErrArg, threads, thread, picks)
			}
		}
	}
	for threads := 1; threads <= 64; threads++ {
		refused(t, api.ErrLong, threads, 0, long)
		refused(t, api.ErrLong, threads, 0, long[:1<<16+1])
		refused(t, api.ErrLong, threads, threads-1, long[:1<<16+1])
	}
	for _, threads := range machines {
		for _, p := range []int{0, 1, -1, threads, math.MaxInt, math.MinInt} {
			isNumber(t, 0, api.ErrArg, "Thread:", threads, p)(Thread(threads, p))
		}
	}
}

// P10.3
func TestRound(t *testing.T) {
	for threads := 1; threads <= 64; threads++ {
		for _, n := range append(slices.Clone(allowed), threads-1, threads, threads+1, 2*threads) {
			var want []int
			for i := range n {
				want = append(want, i%threads)
			}
			is(t, want, api.OK, "Round:", threads, n)(Round(threads, n))
		}
	}
}

// P10.3: every number of threads, every seed, and as many picks as there may be
func TestMixed(t *testing.T) {
	for threads := 1; threads <= 64; threads++ {
		for _, seed := range seeds() {
			want := mixed(seed, threads, 20)
			for _, n := range []int{0, 1, 2, 19, 20} {
				is(t, want[:n], api.OK, "Mixed:", seed, threads, n)(Mixed(seed, threads, n))
			}
		}
	}
	for _, threads := range []int{1, 2, 3, 64} {
		for _, seed := range []uint64{0, 1, last} {
			want := mixed(seed, threads, 1<<16)
			for _, n := range allowed {
				is(t, want[:n], api.OK, "Mixed:", seed, threads, n)(Mixed(seed, threads, n))
			}
		}
	}
}

// P10.3: numbers of picks that are not allowed, and numbers of threads, which are looked at first
func TestMadeErrors(t *testing.T) {
	made := func(e api.Errno, threads, n int) {
		t.Helper()
		is(t, nil, e, "Round:", threads, n)(Round(threads, n))
		for _, seed := range []uint64{0, 1, last} {
			is(t, nil, e, "Mixed:", seed, threads, n)(Mixed(seed, threads, n))
		}
	}
	for threads := 1; threads <= 64; threads++ {
		for _, n := range negative {
			made(api.ErrArg, threads, n)
		}
		for _, n := range tooMany {
			made(api.ErrLong, threads, n)
		}
	}
	for _, threads := range machines {
		for _, n := range slices.Concat(negative, allowed, tooMany) {
			made(api.ErrArg, threads, n)
		}
	}
}

// expand holds Expand against what the document says of it.
func expand(t *testing.T, l []int) {
	t.Helper()
	before := slices.Clone(l)
	want, e := expanded(l)
	is(t, want, e, "Expand:", l)(Expand(l...))
	if !slices.Equal(l, before) {
		t.Error("Expand changes its arguments:", before, l)
	}
}

// P10.4: all lists of few numbers
func TestExpand(t *testing.T) {
	lists(6, -1, 3, func(l []int) { expand(t, l) })
	for _, p := range edges() {
		expand(t, []int{p, 2, -p, 0, p + 1, 1})
		expand(t, []int{p})
	}
}

// P10.4: counts about the greatest sum, and great counts, whose sum may wrap around; all pairs and triples of them
func TestExpandCounts(t *testing.T) {
	counts := []int{0, 1, 1<<15 - 1, 1 << 15, 1<<15 + 1, 1<<16 - 1, 1 << 16, 1<<16 + 1, 1 << 32, 1 << 62, 1<<63 - 1<<15, math.MaxInt - 1, math.MaxInt, -1, -1 << 16, math.MinInt}
	for _, a := range counts {
		expand(t, []int{7, a})
		expand(t, []int{7, a, 8})
		for _, b := range counts {
			expand(t, []int{7, a, 8, b})
			for _, c := range counts {
				expand(t, []int{7, a, 8, b, -9, c})
			}
		}
	}
	wrapping := slices.Repeat([]int{0, math.MaxInt}, 8)
	expand(t, wrapping)
	is(t, nil, api.ErrLong, "a sum that wraps around to 2")(Expand(0, math.MaxInt, 1, math.MaxInt, 2, 4))
	is(t, nil, api.ErrArg, "a sum that is small as one count is negative")(Expand(0, 1<<16, 1, 5, 2, -5))
}

// P10.4: many pairs
func TestExpandManyPairs(t *testing.T) {
	for _, n := range []int{1<<16 - 1, 1 << 16, 1<<16 + 1} {
		var ones, none []int
		for i := range n {
			ones = append(ones, i, 1)
			none = append(none, i, 0)
		}
		want, e := expanded(ones)
		is(t, want, e, "Expand of many pairs:", n)(Expand(ones...))
		is(t, nil, api.OK, "Expand of many counts that are 0:", n)(Expand(none...))
		is(t, nil, api.ErrArg, "Expand of an odd number:", n)(Expand(ones[1:]...))
		ones[len(ones)-1] = -1
		is(t, nil, api.ErrArg, "Expand with a last count that is negative:", n)(Expand(ones...))
	}
}

// P10.5: Counts adds up to the number of picks
func TestCountsAddUp(t *testing.T) {
	for threads := 1; threads <= 64; threads++ {
		for _, n := range []int{0, 1, 63, 64, 1000} {
			counts, e := Counts(threads, some(3, n)...)
			sum := 0
			for _, c := range counts {
				sum += c
			}
			if sum != n || len(counts) != threads || e != api.OK {
				t.Error("Counts:", threads, n, counts, e)
			}
		}
	}
}

// P10.5: each k consecutive picks choose a thread exactly if Gap is less than k, or there are fewer than k picks
func TestGapAndConsecutivePicks(t *testing.T) {
	every := func(threads, thread, k int, picks []int) bool {
		for w := range windows(mods(threads, picks), k) {
			if !slices.Contains(w, thread) {
				return false
			}
		}
		return true
	}
	lists(7, 0, 2, func(l []int) {
		for thread := range 3 {
			n, e := Gap(3, thread, l...)
			for k := 1; k <= 9; k++ {
				if got := n < k || len(l) < k; got != every(3, thread, k, l) || e != api.OK {
					t.Error("Gap:", thread, l, n, e, "but for picks together:", k, !got)
				}
			}
		}
	})
}

// P10.5: in Round each threads consecutive picks choose each thread once
func TestRoundChoosesEach(t *testing.T) {
	for threads := 1; threads <= 64; threads++ {
		picks, _ := Round(threads, 5*threads-1)
		for w := range windows(picks, threads) {
			for thread := range threads {
				n, e := Counts(threads, w...)
				if e != api.OK || n[thread] != 1 {
					t.Fatal("picks of Round:", threads, w, thread, n, e)
				}
			}
		}
		for thread := range threads {
			isNumber(t, threads-1, api.OK, "Gap of Round:", threads, thread)(Gap(threads, thread, picks...))
		}
	}
}

// P10.6: Without removes as many picks as Counts says, and leaves the threads of the others
func TestWithoutAndCounts(t *testing.T) {
	for threads := 1; threads <= 64; threads++ {
		picks := some(uint64(threads)+7, 300)
		counts, _ := Counts(threads, picks...)
		chosen, _ := Chosen(threads, picks...)
		for thread := range threads {
			rest, e := Without(threads, thread, picks...)
			if e != api.OK || len(rest) != len(picks)-counts[thread] {
				t.Error("Without:", threads, thread, len(rest), e)
			}
			others := slices.DeleteFunc(slices.Clone(chosen), func(c int) bool { return c == thread })
			is(t, others, api.OK, "Chosen of Without:", threads, thread)(Chosen(threads, rest...))
		}
	}
}

// P10.7: picks whose difference is a multiple of threads choose the same thread, and others do not
func TestDifferences(t *testing.T) {
	for threads := 1; threads <= 64; threads++ {
		for _, p := range []int{-130, -65, -64, -3, -1, 0, 1, 5, 64, 130, math.MinInt / 2, math.MaxInt / 2} {
			want, _ := Thread(threads, p)
			for d := -200; d <= 200; d++ {
				got, e := Thread(threads, p+d)
				if e != api.OK || (got == want) != (d%threads == 0) {
					t.Error("Thread:", threads, p, d, got, e, want)
				}
			}
			for _, times := range []int{-1 << 54, -1 << 32, 1 << 32, 1 << 54} {
				isNumber(t, want, api.OK, "Thread:", threads, p, times)(Thread(threads, p+times*threads))
			}
		}
	}
}

// P10.1 to P10.4, with R3: results share no memory with arguments or with each other
func TestMemoryOfResults(t *testing.T) {
	picks := []int{0, 1, 2, 5, 8, 4}
	kept := slices.Clone(picks)
	calls := map[string]func() ([]int, api.Errno){
		"Chosen":  func() ([]int, api.Errno) { return Chosen(9, picks...) },
		"Counts":  func() ([]int, api.Errno) { return Counts(9, picks...) },
		"Without": func() ([]int, api.Errno) { return Without(9, 7, picks...) },
		"Expand":  func() ([]int, api.Errno) { return Expand(picks...) },
		"Round":   func() ([]int, api.Errno) { return Round(9, 20) },
		"Mixed":   func() ([]int, api.Errno) { return Mixed(1, 9, 20) },
	}
	for name, f := range calls {
		first, e := f()
		want := slices.Clone(first)
		if len(first) == 0 || e != api.OK {
			t.Error(name, first, e)
		}
		for range 3 {
			l, e := f()
			is(t, want, api.OK, "after a change of an earlier result:", name)(l, e)
			l = append(l, 77)
			for i := range l {
				l[i] = 77
			}
		}
		if !slices.Equal(first, want) || !slices.Equal(picks, kept) {
			t.Error("a change of a result changes another one, or an argument:", name, first, picks)
		}
		for i := range picks {
			picks[i] = 99
		}
		if !slices.Equal(first, want) {
			t.Error("a change of an argument changes a result:", name, first)
		}
		copy(picks, kept)
	}
}

// P10.1 to P10.4: arguments that lie in a greater slice
func TestPartsOfSlices(t *testing.T) {
	whole := []int{0, 1, 2, 3, 4, 5, 6, 7}
	part := whole[2:4]
	is(t, []int{2, 0}, api.OK, "Chosen")(Chosen(3, part...))
	is(t, []int{1, 0, 1}, api.OK, "Counts")(Counts(3, part...))
	is(t, []int{2}, api.OK, "Without")(Without(3, 0, part...))
	is(t, []int{2, 2, 2}, api.OK, "Expand")(Expand(part...))
	isNumber(t, 1, api.OK, "Gap")(Gap(3, 0, part...))
	if !slices.Equal(whole, []int{0, 1, 2, 3, 4, 5, 6, 7}) {
		t.Error("what lies beside the arguments is changed:", whole)
	}
}

// The examples of the chapter.
func TestExamples(t *testing.T) {
	isNumber(t, 2, api.OK, "Thread")(Thread(3, -1))
	isNumber(t, 1, api.OK, "Thread")(Thread(3, 7))
	isNumber(t, 0, api.ErrArg, "Thread")(Thread(0, 0))
	is(t, []int{0, 1, 1, 0}, api.OK, "Chosen")(Chosen(2, 0, 3, -1, 4))
	is(t, []int{2, 1, 1}, api.OK, "Counts")(Counts(3, 0, 3, -1, 4))
	isNumber(t, 2, api.OK, "Gap")(Gap(2, 0, 1, 1, 0, 1))
	is(t, []int{0, 4}, api.OK, "Without")(Without(2, 1, 0, 3, -1, 4))
	is(t, []int{0, 1, 2, 0, 1}, api.OK, "Round")(Round(3, 5))
	is(t, []int{4, 4, 0}, api.OK, "Expand")(Expand(4, 2, 0, 1))
	is(t, nil, api.ErrArg, "Expand")(Expand(4))
}
