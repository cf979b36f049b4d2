package domain

import (
	"math"
	"math/bits"
	"slices"
	"testing"

	"leapfrog/api"
)

const last = math.MaxUint64

// width is the number of keys of a window.
const width = 12

// windows are the first keys of the windows in which all ranges are tried: at both ends of the keys and in between.
var windows = []uint64{0, 60, 1<<63 - 5, last - width + 1}

// edges are keys: ordinary ones, those near the cuts of the maps below, and those near the ends of the keys.
var edges = []uint64{0, 1, 2, 3, 4, 5, 6, 8, 9, 10, 62, 63, 64, 65, 100, 101, 1<<63 - 1, 1 << 63, 1<<63 + 1, last - 65, last - 64, last - 63, last - 62, last - 5, last - 2, last - 1, last}

// one returns the map of all keys to 0.
func one() api.Domain { return api.Domain{Kind: api.MapOne} }

// mod returns the map of keys to remainders.
func mod(n int) api.Domain { return api.Domain{Kind: api.MapMod, N: n} }

// cut returns the map with cuts.
func cut(cuts ...uint64) api.Domain { return api.Domain{Kind: api.MapCut, Cuts: cuts} }

// spread returns n cuts at equal distances.
func spread(n int, by uint64) []uint64 {
	var cuts []uint64
	for i := range uint64(n) {
		cuts = append(cuts, (i+1)*by)
	}
	return cuts
}

// maps returns valid maps: all of MapOne and MapMod, and many of MapCut.
func maps() []api.Domain {
	list := []api.Domain{one(), {Kind: api.MapOne, Cuts: []uint64{}}, {Kind: api.MapMod, N: 5, Cuts: []uint64{}}}
	for n := 1; n <= 64; n++ {
		list = append(list, mod(n))
	}
	var top []uint64
	for i := range uint64(63) {
		top = append(top, last-62+i)
	}
	return append(list, cut(1), cut(5), cut(5, 9), cut(1, 2, 3), cut(1<<63), cut(last), cut(1, last), cut(last-1, last),
		cut(2, 63, 64, 101, 1<<63), cut(spread(62, 3)...), cut(spread(63, 1)...), cut(spread(63, 1<<58)...), cut(top...))
}

// invalid returns maps that are not valid.
func invalid() []api.Domain {
	list := []api.Domain{{}, {N: 1}, {Cuts: []uint64{5}}}
	for kind := 4; kind <= 255; kind++ {
		list = append(list, api.Domain{Kind: uint8(kind)}, api.Domain{Kind: uint8(kind), N: 3}, api.Domain{Kind: uint8(kind), Cuts: []uint64{5}})
	}
	for _, n := range []int{math.MinInt, -64, -2, -1, 1, 2, 64, math.MaxInt} {
		list = append(list, api.Domain{Kind: api.MapOne, N: n}, api.Domain{Kind: api.MapCut, N: n, Cuts: []uint64{5, 9}})
	}
	for _, n := range []int{math.MinInt, -1 << 32, -64, -2, -1, 0, 65, 66, 128, 1<<32 + 1, math.MaxInt} {
		list = append(list, mod(n))
	}
	return append(list,
		api.Domain{Kind: api.MapOne, Cuts: []uint64{5}}, api.Domain{Kind: api.MapOne, Cuts: []uint64{0}},
		api.Domain{Kind: api.MapMod, N: 3, Cuts: []uint64{5}}, api.Domain{Kind: api.MapMod, N: 2, Cuts: []uint64{0}},
		cut(), api.Domain{Kind: api.MapCut, Cuts: []uint64{}}, cut(0), cut(0, 5), cut(5, 5), cut(5, 9, 9), cut(9, 5), cut(5, 9, 8), cut(5, 0),
		cut(1, last, last), cut(last, 0), cut(spread(64, 1)...), cut(spread(64, 1<<57)...), cut(spread(65, 1)...), cut(spread(200, 1)...))
}

// numbers are values: all that are valid, and others.
func numbers() []int {
	list := []int{math.MinInt, -1 << 32, -64, -2, -1}
	for n := 0; n <= 70; n++ {
		list = append(list, n)
	}
	return append(list, 127, 128, 1<<32, 1<<32+1, math.MaxInt)
}

// bucketings are numbers of buckets: all that are valid, and others.
func bucketings() []int {
	list := []int{math.MinInt, -1 << 32, -2, -1}
	for n := 0; n <= 20; n++ {
		list = append(list, n)
	}
	return append(list, 63, 64, 1<<32+1, math.MaxInt)
}

// sets returns sets of values: none, all, each one alone, each one left out, pairs, the least ones, and mixed ones.
func sets() []uint64 {
	list := []uint64{0, last, 0x5555555555555555, 0xaaaaaaaaaaaaaaaa, 0xffffffff00000000, 9, 1<<63 + 1}
	mixed := uint64(1)
	for v := range 64 {
		list = append(list, 1<<v, ^uint64(1<<v), 1<<v-1, ^uint64(1<<v-1))
		for w := range v {
			list = append(list, 1<<v+1<<w)
		}
		mixed = mixed*6364136223846793005 + 1442695040888963407
		list = append(list, mixed, mixed>>32, mixed&(mixed>>7))
	}
	return list
}

// values is what the document says of the number of values of a valid map.
func values(d api.Domain) int {
	return map[uint8]int{api.MapOne: 1, api.MapMod: d.N, api.MapCut: len(d.Cuts) + 1}[d.Kind]
}

// value is what the document says of the value of a key in a valid map.
func value(d api.Domain, key uint64) int {
	if d.Kind == api.MapMod {
		return int(key % uint64(d.N))
	}
	n := 0
	for _, c := range d.Cuts {
		if c <= key {
			n++
		}
	}
	return n
}

// firsts returns keys from a key on, in ascending order, among which is the first key from it on of each value that comes: no map has more than 64 values in turn, and all other changes of the value are at cuts.
func firsts(d api.Domain, from uint64) []uint64 {
	keys := []uint64{from}
	for i := uint64(1); i < 64 && i <= last-from; i++ {
		keys = append(keys, from+i)
	}
	for _, c := range d.Cuts {
		if c > keys[len(keys)-1] {
			keys = append(keys, c)
		}
	}
	return keys
}

// image is what the document says of the image of a valid range.
func image(d api.Domain, s api.Span) uint64 {
	set := uint64(0)
	for _, key := range firsts(d, s.Lo) {
		if key <= s.Hi {
			set |= 1 << value(d, key)
		}
	}
	return set
}

// spans returns the ranges with ends in a window, and those whose ends are edges; those that are not valid as well.
func spans() []api.Span {
	var list []api.Span
	for _, lo := range edges {
		for _, hi := range edges {
			list = append(list, api.Span{Lo: lo, Hi: hi})
		}
	}
	for _, first := range windows {
		for lo := range uint64(width) {
			for hi := range uint64(width) {
				list = append(list, api.Span{Lo: first + lo, Hi: first + hi})
			}
		}
	}
	return list
}

// valid returns the valid ranges of spans.
func valid() []api.Span {
	return slices.DeleteFunc(spans(), func(s api.Span) bool { return s.Lo > s.Hi })
}

// imageOf returns what Image returns for a valid map and a valid range.
func imageOf(t *testing.T, d api.Domain, s api.Span) uint64 {
	t.Helper()
	set, e := Image(d, s)
	if e != api.OK {
		t.Fatal("Image:", d, s, e)
	}
	return set
}

// P3.1
func TestCheckAndValues(t *testing.T) {
	for _, d := range maps() {
		if e := Check(d); e != api.OK {
			t.Error("Check:", d, e)
		}
		if n, e := Values(d); n != values(d) || e != api.OK {
			t.Error("Values:", d, n, e)
		}
	}
	for _, d := range invalid() {
		if e := Check(d); e != api.ErrArg {
			t.Error("Check of a map that is not valid:", d, e)
		}
		if n, e := Values(d); n != 0 || e != api.ErrArg {
			t.Error("Values of a map that is not valid:", d, n, e)
		}
	}
}

// P3.1
func TestOf(t *testing.T) {
	for _, d := range maps() {
		keys := slices.Clone(edges)
		for _, c := range d.Cuts {
			keys = append(keys, c-1, c, c+1)
		}
		for _, first := range windows {
			for i := range uint64(width) {
				keys = append(keys, first+i)
			}
		}
		for _, key := range keys {
			if v, e := Of(d, key); v != value(d, key) || e != api.OK {
				t.Error("Of:", d, key, v, e)
			}
		}
	}
	for _, d := range invalid() {
		for _, key := range edges {
			if v, e := Of(d, key); v != 0 || e != api.ErrArg {
				t.Error("Of a map that is not valid:", d, key, v, e)
			}
		}
	}
}

// P3.2
func TestImage(t *testing.T) {
	for _, d := range maps() {
		for _, s := range spans() {
			want, err := uint64(0), api.ErrBad
			if s.Lo <= s.Hi {
				want, err = image(d, s), api.OK
			}
			if set, e := Image(d, s); set != want || e != err {
				t.Error("Image:", d, s, set, e)
			}
		}
	}
}

// P3.2
func TestImageKeyByKey(t *testing.T) {
	for _, d := range maps() {
		for _, first := range windows {
			for i := range uint64(width) {
				want := uint64(0)
				for j := i; j < width; j++ {
					want |= 1 << value(d, first+j)
					s := api.Span{Lo: first + i, Hi: first + j}
					if set := imageOf(t, d, s); set != want {
						t.Error("Image:", d, s, set)
					}
				}
			}
		}
	}
}

// P3.2: the error of the map comes before that of the range
func TestImageInvalid(t *testing.T) {
	for _, d := range invalid() {
		for _, s := range []api.Span{{Lo: 0, Hi: 0}, {Lo: 3, Hi: 9}, {Lo: 0, Hi: last}, {Lo: 9, Hi: 3}, {Lo: last, Hi: 0}} {
			if set, e := Image(d, s); set != 0 || e != api.ErrArg {
				t.Error("Image of a map that is not valid:", d, s, set, e)
			}
		}
	}
}

// P3.3
func TestLeast(t *testing.T) {
	for _, d := range maps() {
		for _, from := range edges {
			want := map[int]uint64{}
			for _, key := range firsts(d, from) {
				if _, have := want[value(d, key)]; !have {
					want[value(d, key)] = key
				}
			}
			for v := range values(d) {
				least, have := want[v]
				if key, some, e := Least(d, v, from); key != least || some != have || e != api.OK {
					t.Error("Least:", d, v, from, key, some, e)
				}
			}
		}
	}
}

// P3.3: the error of the map comes before that of the value
func TestLeastInvalid(t *testing.T) {
	for _, d := range maps() {
		for _, v := range numbers() {
			if 0 <= v && v < values(d) {
				continue
			}
			for _, from := range []uint64{0, 5, last} {
				if key, some, e := Least(d, v, from); key != 0 || some || e != api.ErrRange {
					t.Error("Least of a value that the map does not have:", d, v, from, key, some, e)
				}
			}
		}
	}
	for _, d := range invalid() {
		for _, v := range []int{math.MinInt, -1, 0, 1, 64, math.MaxInt} {
			if key, some, e := Least(d, v, 0); key != 0 || some || e != api.ErrArg {
				t.Error("Least of a map that is not valid:", d, v, key, some, e)
			}
		}
	}
}

// P3.4
func TestAll(t *testing.T) {
	for _, d := range maps() {
		want := uint64(0)
		for v := range values(d) {
			want |= 1 << v
		}
		if set, e := All(d); set != want || e != api.OK {
			t.Error("All:", d, set, e)
		}
	}
	for _, d := range invalid() {
		if set, e := All(d); set != 0 || e != api.ErrArg {
			t.Error("All of a map that is not valid:", d, set, e)
		}
	}
}

// P3.4
func TestSet(t *testing.T) {
	for _, v := range numbers() {
		for _, w := range numbers() {
			want, err := uint64(0), api.ErrRange
			if 0 <= v && v < 64 && 0 <= w && w < 64 {
				want, err = 1<<v|1<<w, api.OK
			}
			for _, l := range [][]int{{v, w}, {w, v}, {v, w, v}, {v, v, w, w}} {
				if set, e := Set(l...); set != want || e != err {
					t.Error("Set:", l, set, e)
				}
			}
		}
		want, err := uint64(0), api.ErrRange
		if 0 <= v && v < 64 {
			want, err = 1<<v, api.OK
		}
		if set, e := Set(v); set != want || e != err {
			t.Error("Set of one value:", v, set, e)
		}
	}
	if set, e := Set(); set != 0 || e != api.OK {
		t.Error("Set of no value:", set, e)
	}
}

// P3.4
func TestMembers(t *testing.T) {
	for _, set := range sets() {
		var want []int
		for v := range 64 {
			if set&(1<<v) != 0 {
				want = append(want, v)
			}
		}
		if l := Members(set); !slices.Equal(l, want) {
			t.Error("Members:", set, l)
		}
	}
}

// P3.5
func TestBucket(t *testing.T) {
	for _, n := range bucketings() {
		for _, v := range numbers() {
			want, err := 0, api.OK
			switch {
			case n < 1 || n > 16:
				err = api.ErrArg
			case v < 0 || v > 63:
				err = api.ErrRange
			default:
				want = v % n
			}
			if b, e := Bucket(v, n); b != want || e != err {
				t.Error("Bucket:", v, n, b, e)
			}
		}
	}
}

// P3.5
func TestBuckets(t *testing.T) {
	for _, n := range bucketings() {
		for _, set := range sets() {
			var want []int
			err := api.ErrArg
			if 1 <= n && n <= 16 {
				err = api.OK
				for b := range n {
					for v := b; v < 64; v += n {
						if set&(1<<v) != 0 {
							want = append(want, b)
							break
						}
					}
				}
			}
			if l, e := Buckets(set, n); !slices.Equal(l, want) || e != err {
				t.Error("Buckets:", set, n, l, e)
			}
		}
	}
}

// P3.6
func TestImageByLeast(t *testing.T) {
	for _, d := range maps() {
		for _, s := range valid() {
			set := imageOf(t, d, s)
			for v := range values(d) {
				key, some, e := Least(d, v, s.Lo)
				if e != api.OK {
					t.Fatal("Least:", d, v, s, e)
				}
				if in := set&(1<<v) != 0; in != (some && key <= s.Hi) {
					t.Error("a value in the image of a range, and its least key:", d, s, v, in, key, some)
				}
			}
		}
	}
}

// P3.6
func TestImageOfPart(t *testing.T) {
	for _, d := range maps() {
		for _, first := range windows {
			for end := range uint64(width) {
				whole := api.Span{Lo: first, Hi: first + end}
				set := imageOf(t, d, whole)
				for i := range end + 1 {
					for j := i; j <= end; j++ {
						part := api.Span{Lo: first + i, Hi: first + j}
						if got := imageOf(t, d, part); got&^set != 0 {
							t.Error("the image of a part:", d, part, got, whole, set)
						}
					}
				}
			}
		}
	}
}

// P3.6
func TestImageOfHull(t *testing.T) {
	tried := 0
	for _, d := range maps() {
		for _, s := range valid() {
			for _, at := range append(slices.Clone(edges), s.Lo, s.Hi-1) {
				if at < s.Lo || at >= s.Hi {
					continue
				}
				// The two parts lie side by side, or have the key at in common.
				low, high, both := api.Span{Lo: s.Lo, Hi: at}, api.Span{Lo: at + 1, Hi: s.Hi}, api.Span{Lo: at, Hi: s.Hi}
				set := imageOf(t, d, s)
				if imageOf(t, d, low)|imageOf(t, d, high) != set || imageOf(t, d, low)|imageOf(t, d, both) != set {
					t.Error("the image of a hull:", d, s, at)
				}
				tried++
			}
		}
	}
	if tried < 1000 {
		t.Error("too few ranges that touch:", tried)
	}
}

// P3.6
func TestImageOfAllKeys(t *testing.T) {
	for _, d := range maps() {
		all, e := All(d)
		if set := imageOf(t, d, api.Span{Lo: 0, Hi: last}); set != all || e != api.OK {
			t.Error("the image of all keys:", d, set, all, e)
		}
		for v := range values(d) {
			key, some, e := Least(d, v, 0)
			if got, e2 := Of(d, key); !some || got != v || e != api.OK || e2 != api.OK {
				t.Error("a value without a key:", d, v, key, some, got)
			}
		}
	}
}

// P3.7
func TestSetAndMembers(t *testing.T) {
	for _, set := range sets() {
		l := Members(set)
		if again, e := Set(l...); again != set || e != api.OK {
			t.Error("Set of Members:", set, again, e)
		}
		// In another order, and with each value twice.
		other := append(slices.Clone(l), l...)
		slices.Reverse(other)
		again, e := Set(other...)
		if again != set || e != api.OK || !slices.Equal(Members(again), l) {
			t.Error("Members of Set:", other, again, e)
		}
	}
}

// P3.7
func TestCommonValueCommonBucket(t *testing.T) {
	list := sets()
	for n := 1; n <= 16; n++ {
		in := map[uint64]uint64{}
		for _, set := range list {
			l, e := Buckets(set, n)
			if e != api.OK {
				t.Fatal("Buckets:", set, n, e)
			}
			for _, b := range l {
				in[set] |= 1 << b
			}
			for v := range 64 {
				b, e := Bucket(v, n)
				if set&(1<<v) != 0 && (in[set]&(1<<b) == 0 || e != api.OK) {
					t.Error("the bucket of a value is not among those of its set:", set, n, v, b, e)
				}
			}
		}
		for _, a := range list[:300] {
			for _, b := range list {
				if a&b != 0 && in[a]&in[b] == 0 {
					t.Error("no bucket in common:", a, b, n)
				}
			}
		}
	}
}

// P3.1 to P3.5, with R3: arguments stay as they are, and each result is memory of its own
func TestMemory(t *testing.T) {
	for _, d := range append(maps(), invalid()...) {
		before := slices.Clone(d.Cuts)
		Check(d)
		Values(d)
		Of(d, 7)
		Image(d, api.Span{Lo: 3, Hi: last - 3})
		Least(d, 1, 7)
		All(d)
		if !slices.Equal(d.Cuts, before) {
			t.Error("the cuts of an argument change:", before, d)
		}
	}
	l := []int{9, 3, 0, 3}
	if set, e := Set(l...); set != 521 || e != api.OK || !slices.Equal(l, []int{9, 3, 0, 3}) {
		t.Error("Set changes its arguments:", l, set, e)
	}
	for range 2 {
		members := Members(last)
		buckets, e := Buckets(last, 16)
		if len(members) != 64 || len(buckets) != 16 || e != api.OK {
			t.Fatal("Members, Buckets:", members, buckets, e)
		}
		for i := range 16 {
			if members[i] != i || buckets[i] != i {
				t.Error("a result depends on what was done to an earlier one:", members, buckets)
			}
			members[i], buckets[i] = 77, 78
		}
	}
}

// P3.4: the members can be left before the last one, as whatever is ranged over
func TestMembersAreLeft(t *testing.T) {
	for _, set := range sets() {
		seen := 0
		for v := range members(set) {
			if seen++; seen == 2 || v == 63 {
				break
			}
		}
		if seen != min(2, bits.OnesCount64(set)) {
			t.Error("members ranged over in part:", set, seen)
		}
	}
}

// P3.1: the examples of the chapter
func TestExamplesOfMaps(t *testing.T) {
	for _, x := range []struct {
		d    api.Domain
		key  uint64
		want int
	}{{mod(3), 7, 1}, {one(), 7, 0}, {cut(5, 9), 4, 0}, {cut(5, 9), 5, 1}, {cut(5, 9), 100, 2}} {
		if v, e := Of(x.d, x.key); v != x.want || e != api.OK {
			t.Error("Of:", x, v, e)
		}
	}
	for _, d := range []api.Domain{mod(3), cut(5, 9)} {
		if n, e := Values(d); n != 3 || e != api.OK {
			t.Error("Values:", d, n, e)
		}
	}
	for _, d := range []api.Domain{mod(65), cut(5, 5), cut(0), {Kind: api.MapOne, N: 1}} {
		if e := Check(d); e != api.ErrArg {
			t.Error("Check:", d, e)
		}
	}
}

// P3.2, P3.3: the examples of the chapter
func TestExamplesOfImageAndLeast(t *testing.T) {
	for _, x := range []struct {
		d      api.Domain
		lo, hi uint64
		want   uint64
	}{{mod(4), 6, 7, 12}, {mod(4), 6, 9, 15}, {cut(5, 9), 3, 5, 3}, {mod(4), 1<<64 - 2, 1<<64 - 1, 12}} {
		if set, e := Image(x.d, api.Span{Lo: x.lo, Hi: x.hi}); set != x.want || e != api.OK {
			t.Error("Image:", x, set, e)
		}
	}
	for _, x := range []struct {
		d    api.Domain
		v    int
		from uint64
		key  uint64
		some bool
	}{{mod(4), 1, 6, 9, true}, {mod(4), 1, 1<<64 - 2, 0, false}, {cut(5, 9), 1, 2, 5, true}, {cut(5, 9), 1, 9, 0, false}} {
		if key, some, e := Least(x.d, x.v, x.from); key != x.key || some != x.some || e != api.OK {
			t.Error("Least:", x, key, some, e)
		}
	}
}

// P3.4, P3.5: the examples of the chapter, and those of the whole (example 1)
func TestExamplesOfSets(t *testing.T) {
	if set, e := Set(3, 0, 3); set != 9 || e != api.OK {
		t.Error("Set(3, 0, 3):", set, e)
	}
	if l := Members(9); !slices.Equal(l, []int{0, 3}) {
		t.Error("Members(9):", l)
	}
	if set, e := Set(64); set != 0 || e != api.ErrRange {
		t.Error("Set(64):", set, e)
	}
	if l, e := Buckets(9, 2); !slices.Equal(l, []int{0, 1}) || e != api.OK {
		t.Error("Buckets(9, 2):", l, e)
	}
	if b, e := Bucket(9, 0); b != 0 || e != api.ErrArg {
		t.Error("Bucket(9, 0):", b, e)
	}
	if b, e := Bucket(64, 4); b != 0 || e != api.ErrRange {
		t.Error("Bucket(64, 4):", b, e)
	}
	for i, key := range []uint64{0, 1, 5} {
		if v, e := Of(mod(2), key); v != []int{0, 1, 1}[i] || e != api.OK {
			t.Error("Of, example 1 of the document:", key, v, e)
		}
	}
	if imageOf(t, mod(2), api.Span{Lo: 4, Hi: 4}) != 1 || imageOf(t, mod(2), api.Span{Lo: 0, Hi: 9}) != 3 {
		t.Error("Image, example 1 of the document")
	}
}
