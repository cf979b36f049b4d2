package draw

import (
	"math"
	"math/big"
	"slices"
	"strconv"
	"strings"
	"testing"

	"leapfrog/api"
)

const last = math.MaxUint64

// by is what the document says a seed is increased by from draw to draw.
const by uint64 = 11400714819323198485

// edges are draws and seeds: ordinary ones, those about the powers of 2, and those near the ends of the numbers.
func edges() []uint64 {
	list := []uint64{0, last, 5, 12345678901234567890, by, by - 1, by + 1, last - by, 0x5555555555555555, 0xaaaaaaaaaaaaaaaa}
	for n := range 64 {
		list = append(list, 1<<n-1, 1<<n, 1<<n+1, ^uint64(1<<n-1), ^uint64(1<<n))
	}
	return list
}

// mixed returns n numbers without a visible order.
func mixed(n int) []uint64 {
	var list []uint64
	x := uint64(1)
	for range n {
		x = x*6364136223846793005 + 1442695040888963407
		list = append(list, x^x>>29)
	}
	return list
}

// seeds returns edges and mixed numbers.
func seeds() []uint64 {
	return append(edges(), mixed(100)...)
}

// indices are numbers of draws: the first ones, negative ones, and those near the ends of the ints.
var indices = []int{0, 1, 2, 3, 4, 5, 63, 64, 1023, 1024, 1<<31 - 1, 1 << 31, 1<<32 - 1, 1 << 32, math.MaxInt - 1, math.MaxInt, -1, -2, -3, -4, -64, -1 << 31, -1<<32 - 1, math.MinInt + 1, math.MinInt}

// height is what the document says of the height of a draw, read off its binary digits.
func height(x uint64) int {
	digits := strconv.FormatUint(x, 2)
	ones := len(digits) - len(strings.TrimRight(digits, "1"))
	return min(ones+1, 6)
}

// number returns a number of any size.
func number(x uint64) *big.Int {
	return new(big.Int).SetUint64(x)
}

// modulo returns x modulo 2^64.
func modulo(x *big.Int) *big.Int {
	return x.Mod(x, new(big.Int).Lsh(big.NewInt(1), 64))
}

// xor returns z xor (z / 2^n).
func xor(z *big.Int, n uint) *big.Int {
	quotient := new(big.Int).Quo(z, new(big.Int).Lsh(big.NewInt(1), n))
	return quotient.Xor(quotient, z)
}

// mix is what the document says of the draw number i of a seed, in numbers that do not wrap around.
func mix(seed uint64, i int) uint64 {
	next := new(big.Int).Add(big.NewInt(int64(i)), big.NewInt(1))
	z := modulo(next.Mul(next, number(by)).Add(next, number(seed)))
	z = modulo(new(big.Int).Mul(xor(z, 30), number(13787848793156543929)))
	z = modulo(new(big.Int).Mul(xor(z, 27), number(10723151780598845931)))
	return xor(z, 31).Uint64()
}

// inverse returns the number whose product with an odd number is 1, modulo 2^64.
func inverse(x uint64) uint64 {
	return new(big.Int).ModInverse(number(x), new(big.Int).Lsh(big.NewInt(1), 64)).Uint64()
}

// unxor returns the z for which x is z xor (z / 2^n).
func unxor(x uint64, n uint) uint64 {
	z := x
	for shift := n; shift < 64; shift += n {
		z ^= x >> shift
	}
	return z
}

// unmix returns the seed that has a draw at an index.
func unmix(draw uint64, i int) uint64 {
	z := unxor(draw, 31) * inverse(10723151780598845931)
	z = unxor(z, 27) * inverse(13787848793156543929)
	return unxor(z, 30) - (uint64(i)+1)*by
}

// heightsOf returns what Heights returns for a number of heights that it allows.
func heightsOf(t *testing.T, seed uint64, n int) []int {
	t.Helper()
	l, e := Heights(seed, n)
	if e != api.OK {
		t.Fatal("Heights:", seed, n, e)
	}
	return l
}

// P4.1: all draws of few bits, with few and with many bits above them, and edges
func TestHeight(t *testing.T) {
	for low := range uint64(1 << 12) {
		for _, x := range []uint64{low, low + 1<<12, low + 1<<63, last - low} {
			if h := Height(x); h != height(x) {
				t.Error("Height:", x, h, "and not", height(x))
			}
		}
	}
	for _, x := range seeds() {
		if h := Height(x); h != height(x) {
			t.Error("Height:", x, h, "and not", height(x))
		}
	}
}

// P4.1: each number of lowest bits that are 1 has its height, and from five on it is MaxHeight
func TestHeightOfOnes(t *testing.T) {
	for ones := range 65 {
		want := min(ones+1, api.MaxHeight)
		if h := Height(1<<ones - 1); h != want {
			t.Error("Height of ones alone:", ones, h)
		}
		if ones < 64 {
			if h := Height(last - 1<<ones); h != want {
				t.Error("Height of ones, a 0 and ones:", ones, h)
			}
		}
	}
}

// P4.1
func TestMix(t *testing.T) {
	for _, seed := range seeds() {
		for _, i := range indices {
			if x := Mix(seed, i); x != mix(seed, i) {
				t.Error("Mix:", seed, i, x, "and not", mix(seed, i))
			}
		}
	}
	for _, seed := range edges()[:12] {
		for i := -1100; i <= 1100; i++ {
			if x := Mix(seed, i); x != mix(seed, i) {
				t.Error("Mix:", seed, i, x, "and not", mix(seed, i))
			}
		}
	}
}

// P4.2
func TestHeights(t *testing.T) {
	for _, seed := range seeds() {
		var want []int
		for i := range 1024 {
			want = append(want, height(mix(seed, i)))
		}
		for _, n := range []int{0, 1, 2, 3, 31, 32, 1000, 1023, 1024} {
			if l := heightsOf(t, seed, n); !slices.Equal(l, want[:n]) {
				t.Fatal("Heights:", seed, n, l, "and not", want[:n])
			}
		}
	}
}

// P4.2: numbers of heights that are not allowed
func TestHeightsErrors(t *testing.T) {
	for _, seed := range seeds() {
		for _, n := range []int{-1, -2, -1024, -1 << 32, math.MinInt + 1, math.MinInt} {
			if l, e := Heights(seed, n); len(l) != 0 || e != api.ErrArg {
				t.Error("Heights of a negative number:", seed, n, len(l), e)
			}
		}
		for _, n := range []int{1025, 1026, 2048, 1<<16 + 5, 1<<32 + 1, math.MaxInt - 1, math.MaxInt} {
			if l, e := Heights(seed, n); len(l) != 0 || e != api.ErrLong {
				t.Error("Heights of too great a number:", seed, n, len(l), e)
			}
		}
	}
}

// P4.2: results share no memory
func TestHeightsAreNew(t *testing.T) {
	for _, n := range []int{1, 3, 1024} {
		want := slices.Clone(heightsOf(t, 7, n))
		for range 3 {
			l := heightsOf(t, 7, n)
			if !slices.Equal(l, want) {
				t.Error("Heights depend on what was done to earlier ones:", n, l)
			}
			for i := range l {
				l[i] = 77
			}
		}
	}
}

// P4.3: all lists of at most four heights about those that are allowed
func TestTally(t *testing.T) {
	list := []int{math.MinInt, -1, 0, 1, 2, 3, 4, 5, 6, 7, 8, 1<<32 + 1, math.MaxInt}
	checkTally(t, nil)
	for _, a := range list {
		checkTally(t, []int{a})
		for _, b := range list {
			checkTally(t, []int{a, b})
			for _, c := range list {
				checkTally(t, []int{a, b, c})
				for _, d := range list {
					checkTally(t, []int{a, b, c, d})
				}
			}
		}
	}
}

// checkTally holds Tally against what the document says of it, and looks whether it changes its arguments.
func checkTally(t *testing.T, heights []int) {
	t.Helper()
	var want [6]int
	wrong := api.OK
	for h := 1; h <= 6; h++ {
		for _, x := range heights {
			if x == h {
				want[h-1]++
			}
		}
	}
	if slices.ContainsFunc(heights, func(h int) bool { return h < 1 || h > 6 }) {
		want, wrong = [6]int{}, api.ErrRange
	}
	before := slices.Clone(heights)
	if counts, e := Tally(heights...); counts != want || e != wrong {
		t.Error("Tally:", heights, counts, e, "and not", want, wrong)
	}
	if !slices.Equal(heights, before) {
		t.Error("Tally changes its arguments:", before, heights)
	}
}

// P4.3: long lists, and one height in them that is not allowed, wherever it is
func TestTallyOfMany(t *testing.T) {
	var heights []int
	for i := range 6 {
		heights = append(heights, slices.Repeat([]int{6 - i}, i*100+1)...)
	}
	want := [6]int{501, 401, 301, 201, 101, 1}
	if counts, e := Tally(heights...); counts != want || e != api.OK {
		t.Error("Tally of a long list:", counts, e)
	}
	for i, h := range heights {
		for _, wrong := range []int{0, 7} {
			heights[i] = wrong
			if counts, e := Tally(heights...); counts != [6]int{} || e != api.ErrRange {
				t.Error("Tally of a long list with a height that is not allowed:", i, wrong, counts, e)
			}
		}
		heights[i] = h
	}
}

// P4.3: a list may be longer than MaxTowers, as only Heights has a limit
func TestTallyHasNoLimit(t *testing.T) {
	if counts, e := Tally(slices.Repeat([]int{3, 6}, 70000)...); counts != [6]int{2: 70000, 5: 70000} || e != api.OK {
		t.Error("Tally of more than MaxTowers heights:", counts, e)
	}
}

// P4.2, P4.3: the tally of heights adds up to their number
func TestTallyOfHeights(t *testing.T) {
	for _, seed := range seeds() {
		counts, e := Tally(heightsOf(t, seed, 1024)...)
		if e != api.OK {
			t.Error("Tally of Heights:", seed, e)
		}
		sum := 0
		for _, n := range counts {
			sum += n
		}
		if sum != 1024 {
			t.Error("Tally of Heights:", seed, counts)
		}
	}
}

// P4.4: only the lowest MaxHeight - 1 bits count
func TestHeightOfLowBits(t *testing.T) {
	for _, x := range seeds() {
		for low := range uint64(32) {
			if h := Height(x&^31 + low); h != Height(low) {
				t.Error("Height depends on more than five bits:", x, low, h)
			}
		}
		for bit := range 5 {
			if below := uint64(1<<bit - 1); Height(x|1<<bit|below) <= Height(x&^(1<<bit)|below) {
				t.Error("Height does not depend on a low bit:", x, bit)
			}
		}
	}
}

// P4.4: the heights of 32 numbers in a row, wherever the row begins
func TestHeightsOfRows(t *testing.T) {
	for _, begin := range append(seeds(), last-31, last-32, 1<<63-16, 1<<32-16) {
		for shift := range uint64(33) {
			if begin+shift > last-31 || begin+shift < begin {
				continue
			}
			var heights []int
			for i := range uint64(32) {
				heights = append(heights, Height(begin+shift+i))
			}
			if counts, e := Tally(heights...); counts != [6]int{16, 8, 4, 2, 1, 1} || e != api.OK {
				t.Error("heights of a row:", begin+shift, counts, e)
			}
		}
	}
}

// P4.5: Heights of a smaller number are the first ones of a greater number
func TestHeightsBegin(t *testing.T) {
	for _, seed := range append(edges()[:12], mixed(4)...) {
		all := heightsOf(t, seed, api.MaxTowers)
		for n := range len(all) + 1 {
			if l := heightsOf(t, seed, n); !slices.Equal(l, all[:n]) {
				t.Fatal("Heights of a smaller number:", seed, n, l)
			}
		}
	}
}

// P4.5: each number is the draw of one seed, and of no other
func TestMixIsBijection(t *testing.T) {
	for _, i := range indices {
		for _, x := range seeds() {
			if seed := unmix(x, i); Mix(seed, i) != x {
				t.Error("a number that is no draw:", x, i, seed, Mix(seed, i))
			}
			if seed := unmix(Mix(x, i), i); seed != x {
				t.Error("two seeds with one draw:", x, i, seed)
			}
		}
	}
}

// P4.5: seeds that differ have draws that differ
func TestMixOfManySeeds(t *testing.T) {
	for _, i := range []int{-2, -1, 0, 1, 1023} {
		seen := map[uint64]uint64{}
		for n := range uint64(20000) {
			for _, seed := range []uint64{n, 1<<63 + n, last - n, n << 40} {
				x := Mix(seed, i)
				if other, some := seen[x]; some && other != seed {
					t.Error("two seeds with one draw:", seed, other, i, x)
				}
				seen[x] = seed
			}
		}
	}
}

// P4.5: a later draw of a seed is the first one of a seed that is further on
func TestMixOfSeedsFurtherOn(t *testing.T) {
	for _, seed := range seeds() {
		for _, i := range indices {
			if Mix(seed, i) != Mix(seed+uint64(i)*by, 0) {
				t.Error("Mix of a seed that is further on:", seed, i)
			}
			if i > 0 && Mix(seed, i) != Mix(seed+by, i-1) {
				t.Error("Mix of the next seed:", seed, i)
			}
		}
	}
}

// P4.1: the examples of the chapter
func TestExamplesOfHeightAndMix(t *testing.T) {
	for _, x := range []struct {
		draw uint64
		want int
	}{{0, 1}, {1, 2}, {5, 2}, {31, 6}, {63, 6}, {1<<64 - 1, 6}} {
		if h := Height(x.draw); h != x.want {
			t.Error("Height:", x, h)
		}
	}
	for i, want := range []uint64{16294208416658607535, 7960286522194355700, 487617019471545679} {
		if x := Mix(0, i); x != want {
			t.Error("Mix(0, i):", i, x)
		}
	}
}

// P4.2, P4.3: the examples of the chapter
func TestExamplesOfHeightsAndTally(t *testing.T) {
	if l, e := Heights(0, 3); !slices.Equal(l, []int{5, 1, 5}) || e != api.OK {
		t.Error("Heights(0, 3):", l, e)
	}
	if l, e := Heights(0, -1); len(l) != 0 || e != api.ErrArg {
		t.Error("Heights(0, -1):", l, e)
	}
	if l, e := Heights(0, 1025); len(l) != 0 || e != api.ErrLong {
		t.Error("Heights(0, 1025):", l, e)
	}
	if counts, e := Tally(1, 1, 3); counts != [6]int{2, 0, 1, 0, 0, 0} || e != api.OK {
		t.Error("Tally(1, 1, 3):", counts, e)
	}
	if counts, e := Tally(0); counts != [6]int{} || e != api.ErrRange {
		t.Error("Tally(0):", counts, e)
	}
	if counts, e := Tally(); counts != [6]int{} || e != api.OK {
		t.Error("Tally():", counts, e)
	}
}
