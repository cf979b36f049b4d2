package layout

import (
	"math"
	"slices"
	"testing"

	"leapfrog/api"
)

// far are numbers far from all that counts anything, some of which come near it when they wrap around.
var far = []int{math.MinInt, math.MinInt + 1, -1 << 32, -1 << 16, 1 << 16, 1 << 32, 1<<32 + 1, 1 << 61, math.MaxInt - 1, math.MaxInt}

// around returns the numbers from lo to hi, and far ones.
func around(lo, hi int) []int {
	l := slices.Clone(far)
	for n := lo; n <= hi; n++ {
		l = append(l, n)
	}
	return l
}

// towers are numbers of towers of each height.
type towers = [api.MaxHeight]int

// cut returns the map with cuts.
func cut(cuts ...uint64) api.Domain { return api.Domain{Kind: api.MapCut, Cuts: cuts} }

// mod returns the map of keys to remainders.
func mod(n int) api.Domain { return api.Domain{Kind: api.MapMod, N: n} }

// ascending returns n cuts.
func ascending(n int) []uint64 {
	var l []uint64
	for i := range n {
		l = append(l, uint64(i)+1)
	}
	return l
}

// example returns the configuration of the chapter's examples.
func example() api.Config {
	return api.Config{Threads: 1, Slots: 2, Engine: api.EngEach, Domain: mod(2), Towers: towers{2, 1}, Locks: 1, Tries: 1}
}

// setting is a way to set a field of a configuration, or fields that belong together, and whether it is valid.
type setting struct {
	set   func(c *api.Config)
	valid bool
}

// numbers returns the settings of a field that is valid from lo to hi.
func numbers(lo, hi int, field func(c *api.Config) *int) []setting {
	var l []setting
	for _, n := range append(slices.Clone(far), lo-65, lo-2, lo-1, lo, lo+1, lo+2, hi-1, hi, hi+1, hi+2, hi+64, 2*hi) {
		l = append(l, setting{func(c *api.Config) { *field(c) = n }, lo <= n && n <= hi})
	}
	return l
}

// engines returns the settings of engine and buckets.
func engines() []setting {
	var l []setting
	add := func(engine uint8, buckets int, valid bool) {
		l = append(l, setting{func(c *api.Config) { c.Engine, c.Buckets = engine, buckets }, valid})
	}
	for _, n := range []int{math.MinInt, -1, 1, 2, 16, math.MaxInt} {
		add(api.EngFull, n, false)
		add(api.EngEach, n, false)
	}
	add(api.EngFull, 0, true)
	add(api.EngEach, 0, true)
	for n := 1; n <= 16; n++ {
		add(api.EngGate, n, true)
	}
	for _, n := range []int{math.MinInt, -1, 0, 17, 18, 64, 1<<32 + 1, math.MaxInt} {
		add(api.EngGate, n, false)
	}
	for _, engine := range []uint8{0, 4, 5, 127, 128, 254, 255} {
		add(engine, 0, false)
		add(engine, 1, false)
	}
	return l
}

// domains returns the settings of the domain map.
func domains() []setting {
	var l []setting
	add := func(valid bool, maps ...api.Domain) {
		for _, d := range maps {
			l = append(l, setting{func(c *api.Config) { c.Domain = d }, valid})
		}
	}
	add(true, api.Domain{Kind: api.MapOne}, mod(1), mod(2), mod(63), mod(64), api.Domain{Kind: api.MapMod, N: 3, Cuts: []uint64{}},
		cut(1), cut(5, 9), cut(math.MaxUint64), cut(ascending(62)...), cut(ascending(63)...))
	add(false, api.Domain{}, api.Domain{Kind: 4}, api.Domain{Kind: 255, N: 2}, api.Domain{Kind: api.MapOne, N: 1},
		api.Domain{Kind: api.MapOne, Cuts: []uint64{4}}, mod(0), mod(-1), mod(65), mod(math.MaxInt), mod(math.MinInt),
		api.Domain{Kind: api.MapMod, N: 2, Cuts: []uint64{4}}, cut(), cut(0), cut(0, 3), cut(4, 4), cut(5, 4), cut(ascending(64)...),
		api.Domain{Kind: api.MapCut, N: 2, Cuts: []uint64{4}})
	return l
}

// piles returns the settings of the numbers of towers.
func piles() []setting {
	var l []setting
	add := func(valid bool, counts ...towers) {
		for _, n := range counts {
			l = append(l, setting{func(c *api.Config) { c.Towers = n }, valid})
		}
	}
	add(true, towers{}, towers{1, 1, 1, 1, 1, 1}, towers{1019, 1, 1, 1, 1, 1}, towers{0, 512, 0, 0, 512}, towers{170, 171, 171, 171, 170, 171})
	add(false, towers{1019, 1, 1, 1, 1, 2}, towers{0, 512, 0, 0, 513}, towers{171, 171, 171, 171, 171, 171}, towers{1024, 1024, 1024, 1024, 1024, 1024},
		towers{-1, -1, -1, -1, -1, -1}, towers{1024, 1, -1}, towers{1025, -1})
	for i := range api.MaxHeight {
		for _, n := range []int{0, 1, 2, 1023, 1024} {
			counts := towers{}
			counts[i] = n
			add(true, counts)
		}
		for _, n := range append(slices.Clone(far), -2, -1, 1025, 1026, 2048) {
			counts := towers{}
			counts[i] = n
			add(false, counts)
			counts[(i+1)%api.MaxHeight] = 5
			add(false, counts)
		}
		counts := towers{}
		counts[i], counts[(i+1)%api.MaxHeight] = -1, 1
		add(false, counts)
		counts[i], counts[(i+1)%api.MaxHeight] = 1, 1024
		add(false, counts)
	}
	// The sums of these wrap around to small numbers.
	add(false, towers{math.MaxInt, math.MaxInt, 2}, towers{math.MaxInt, 0, 5, math.MaxInt, 0, 5}, towers{1 << 62, 1 << 62, 1 << 62, 1 << 62, 7, 8},
		towers{1, math.MaxInt, math.MinInt}, towers{math.MinInt, math.MinInt}, towers{3, math.MaxInt, 1, 1, math.MaxInt})
	return l
}

// settings returns the settings of all fields.
func settings() [][]setting {
	return [][]setting{
		numbers(1, 64, func(c *api.Config) *int { return &c.Threads }),
		numbers(1, 64, func(c *api.Config) *int { return &c.Slots }),
		engines(),
		domains(),
		piles(),
		numbers(1, 16, func(c *api.Config) *int { return &c.Locks }),
		numbers(1, 255, func(c *api.Config) *int { return &c.Tries }),
		numbers(0, 64, func(c *api.Config) *int { return &c.Batch }),
	}
}

// configs returns valid configurations: small ones of every kind, and the greatest ones.
func configs() []api.Config {
	l := []api.Config{example()}
	for _, d := range []api.Domain{{Kind: api.MapOne}, mod(1), mod(3), cut(7), cut(1, 5, math.MaxUint64)} {
		for _, n := range []towers{{}, {1}, {0, 0, 0, 0, 0, 1}, {2, 1}, {0, 2, 0, 3}, {1, 1, 1, 1, 1, 1}, {4, 3, 2, 1, 2, 3}} {
			for _, slots := range []int{1, 2, 5} {
				for _, locks := range []int{1, 4} {
					c := api.Config{Threads: 2, Slots: slots, Domain: d, Towers: n, Locks: locks, Tries: 3, Batch: 1}
					for buckets := range 4 {
						c.Engine, c.Buckets = api.EngGate, buckets
						if buckets == 0 {
							c.Engine = api.EngFull
							l = append(l, c)
							c.Engine = api.EngEach
						}
						l = append(l, c)
					}
				}
			}
		}
	}
	for _, d := range []api.Domain{mod(64), cut(ascending(63)...)} {
		for _, n := range []towers{{1024}, {0, 0, 0, 0, 0, 1024}, {170, 171, 171, 171, 170, 171}, {1023, 0, 0, 0, 0, 1}} {
			c := api.Config{Threads: 64, Slots: 64, Engine: api.EngGate, Buckets: 16, Domain: d, Towers: n, Locks: 16, Tries: 255, Batch: 64}
			l = append(l, c)
			c.Engine, c.Buckets = api.EngEach, 0
			l = append(l, c)
			c.Engine = api.EngFull
			l = append(l, c)
		}
	}
	return l
}

// made returns the layout of a valid configuration.
func made(t *testing.T, c api.Config) *Layout {
	t.Helper()
	l, e := New(c)
	if l == nil || e != api.OK {
		t.Fatal("New:", c, l, e)
	}
	return l
}

// alike reports whether two configurations are equal.
func alike(c, d api.Config) bool {
	cuts := slices.Equal(c.Domain.Cuts, d.Domain.Cuts)
	x, y := c.Domain, d.Domain
	return cuts && x.Kind == y.Kind && x.N == y.N && c.Threads == d.Threads && c.Slots == d.Slots && c.Engine == d.Engine &&
		c.Buckets == d.Buckets && c.Towers == d.Towers && c.Locks == d.Locks && c.Tries == d.Tries && c.Batch == d.Batch
}

// values returns the number of domain values.
func values(d api.Domain) int {
	return max(1, d.N, len(d.Cuts)+1)
}

// heights returns the heights of the towers, from the first one on.
func heights(c api.Config) []int {
	var l []int
	for i, n := range c.Towers {
		for range n {
			l = append(l, i+1)
		}
	}
	return l
}

// plain is a store as the document's table speaks of it.
type plain struct {
	words  []api.Place // of each address
	places api.Layout
	at     map[api.Place]int // the address of each word
}

// add appends the words of an element.
func (w *plain) add(kind uint8, index, size int) {
	for word := range size {
		p := api.Place{Kind: kind, Index: index, Word: word}
		w.at[p] = len(w.words)
		w.words = append(w.words, p)
	}
}

// group appends elements of the same size, and returns the address at which they begin.
func (w *plain) group(kind uint8, index, count, size int) int {
	first := len(w.words)
	for i := range count {
		w.add(kind, index+i, size)
	}
	return first
}

// table returns the words of a configuration, in the order of the document's table.
func table(c api.Config) *plain {
	w := &plain{at: map[api.Place]int{}}
	all := heights(c)
	w.places.Owners = w.group(api.AtOwner, 0, c.Slots, 1)
	w.places.Engine = w.group(api.AtEngine, 0, 1, map[uint8]int{api.EngFull: c.Slots, api.EngEach: 2 * c.Slots, api.EngGate: 4 * c.Buckets}[c.Engine])
	w.places.Master = w.group(api.AtMaster, 0, 1, 1)
	w.places.Locks = w.group(api.AtLock, 0, c.Locks, 3)
	w.places.Descs = w.group(api.AtDesc, 0, c.Locks, 1)
	w.places.Pools = w.group(api.AtPool, 0, 6, 1)
	w.places.Links = w.group(api.AtLink, 1, len(all), 1)
	w.places.Heads = w.group(api.AtHead, 0, values(c.Domain), 7)
	w.places.Towers = len(w.words)
	for i, height := range all {
		w.add(api.AtTower, i+1, 5+height)
	}
	w.places.Words = len(w.words)
	return w
}

// P9.1: each field with all its settings, alone and together with each setting of each other field
func TestCheck(t *testing.T) {
	fields := settings()
	for i, some := range fields {
		for _, s := range some {
			c := example()
			s.set(&c)
			checked(t, c, s.valid)
			for _, others := range fields[i+1:] {
				for _, o := range others {
					c := example()
					s.set(&c)
					o.set(&c)
					checked(t, c, s.valid && o.valid)
				}
			}
		}
	}
}

// checked looks whether Check and New say that a configuration is valid, or that it is not.
func checked(t *testing.T, c api.Config, valid bool) {
	t.Helper()
	want := api.ErrArg
	if valid {
		want = api.OK
	}
	if e := Check(c); e != want {
		t.Error("Check:", c, e, "and not", want)
	}
	if l, e := New(c); e != want || (l != nil) != valid {
		t.Error("New:", c, l, e, "and not", want)
	}
}

// P9.1: every number near the limits, and every engine with every number of buckets
func TestCheckEachNumber(t *testing.T) {
	for n := -70; n <= 330; n++ {
		c := example()
		c.Threads = n
		checked(t, c, 1 <= n && n <= 64)
		c = example()
		c.Slots = n
		checked(t, c, 1 <= n && n <= 64)
		c = example()
		c.Locks = n
		checked(t, c, 1 <= n && n <= 16)
		c = example()
		c.Tries = n
		checked(t, c, 1 <= n && n <= 255)
		c = example()
		c.Batch = n
		checked(t, c, 0 <= n && n <= 64)
		for engine := range 256 {
			c := example()
			c.Engine, c.Buckets = uint8(engine), n
			checked(t, c, engine == 1 && n == 0 || engine == 2 && n == 0 || engine == 3 && 1 <= n && n <= 16)
		}
	}
	checked(t, api.Config{}, false)
}

// P9.1: Config, Places and Towers
func TestNew(t *testing.T) {
	for _, c := range configs() {
		checked(t, c, true)
		l, w := made(t, c), table(c)
		if got := l.Config(); !alike(got, c) {
			t.Error("Config:", got, "and not", c)
		}
		if got := l.Places(); got != w.places {
			t.Error("Places:", c, got, "and not", w.places)
		}
		if n := l.Towers(); n != len(heights(c)) {
			t.Error("Towers:", c, n, "and not", len(heights(c)))
		}
		if n := l.Places().Words; n > api.MaxWords {
			t.Error("more words than a memory has:", c, n)
		}
	}
}

// P9.1, with R3: neither the argument of New nor the results of its methods share memory with the layout
func TestMemory(t *testing.T) {
	cuts := []uint64{3, 8}
	c := example()
	c.Domain = cut(cuts...)
	l, other := made(t, c), made(t, c)
	cuts[0] = 9
	if got := l.Config().Domain.Cuts; !slices.Equal(got, []uint64{3, 8}) {
		t.Error("Config after a change of the argument of New:", got)
	}
	l.Config().Domain.Cuts[1] = 1
	for _, l := range []*Layout{l, other} {
		if got := l.Config().Domain.Cuts; !slices.Equal(got, []uint64{3, 8}) {
			t.Error("Config after a change of its result:", got)
		}
	}
	first := l.Initial()
	for i := range first {
		first[i] = 77
	}
	if got := l.Initial(); !slices.Equal(got, other.Initial()) || slices.Contains(got, 77) {
		t.Error("Initial after a change of its result:", got)
	}
	if !slices.Equal(cuts, []uint64{9, 8}) {
		t.Error("the cuts that New was given are changed:", cuts)
	}
}

// P9.1: a configuration that is refused is not changed, and neither is one that is accepted
func TestArguments(t *testing.T) {
	for _, cuts := range [][]uint64{{3, 8}, {8, 3}, {0}} {
		c := example()
		c.Domain = cut(cuts...)
		kept := slices.Clone(cuts)
		Check(c)
		New(c)
		if !slices.Equal(cuts, kept) {
			t.Error("cuts are changed:", kept, cuts)
		}
	}
}

// P9.1 to P9.4, with R5: the methods of a nil layout, whose error comes before the others
func TestNil(t *testing.T) {
	var l *Layout
	if c := l.Config(); !alike(c, api.Config{}) {
		t.Error("Config:", c)
	}
	if p := l.Places(); p != (api.Layout{}) {
		t.Error("Places:", p)
	}
	if n, words := l.Towers(), l.Initial(); n != 0 || len(words) != 0 {
		t.Error("Towers, Initial:", n, words)
	}
	for _, n := range around(-4, 8) {
		if p := l.Of(n); p != (api.Place{}) {
			t.Error("Of:", n, p)
		}
		if at, e := l.Height(n); at != 0 || e != api.ErrNil {
			t.Error("Height:", n, at, e)
		}
		if at, e := l.Latch(api.Ref(n)); at != 0 || e != api.ErrNil {
			t.Error("Latch:", n, at, e)
		}
		for _, i := range around(-4, 8) {
			if at, e := l.Word(n, i); at != 0 || e != api.ErrNil {
				t.Error("Word:", n, i, at, e)
			}
			if at, e := l.Next(api.Ref(n), i); at != 0 || e != api.ErrNil {
				t.Error("Next:", n, i, at, e)
			}
		}
	}
}

// expect looks whether a call returned the address of a word, or ErrRange if there is no such word.
func (w *plain) expect(t *testing.T, at int, e api.Errno, is bool, p api.Place, what ...any) {
	t.Helper()
	want, there := w.at[p]
	if is && !there {
		t.Fatal("no such word:", p, what)
	}
	if is && (at != want || e != api.OK) {
		t.Error(what, at, e, "and not", want)
	}
	if !is && (at != 0 || e != api.ErrRange) {
		t.Error(what, at, e, "and not ErrRange")
	}
}

// indices returns numbers that are looked for among n: all from -3 to n plus 2 if they are few, otherwise those at both ends.
func indices(n int) []int {
	if n <= 100 {
		return around(-3, n+2)
	}
	return append(around(-3, 12), around(n-12, n+2)...)
}

// P9.2: Height and Word of towers that there are and of ones that there are not
func TestTowers(t *testing.T) {
	for _, c := range configs() {
		l, w, all := made(t, c), table(c), heights(c)
		for _, tower := range indices(len(all)) {
			is := 1 <= tower && tower <= len(all)
			height, e := l.Height(tower)
			if is && (height != all[tower-1] || e != api.OK) {
				t.Error("Height:", c, tower, height, e, "and not", all[tower-1])
			}
			if !is && (height != 0 || e != api.ErrRange) {
				t.Error("Height:", c, tower, height, e, "and not ErrRange")
			}
			for _, word := range around(-3, 13) {
				at, e := l.Word(tower, word)
				w.expect(t, at, e, is && 0 <= word && word <= 4, api.Place{Kind: api.AtTower, Index: tower, Word: word}, "Word:", c, tower, word)
			}
		}
	}
}

// P9.2: Next and Latch of towers
func TestNodesThatAreTowers(t *testing.T) {
	for _, c := range configs() {
		l, w, all := made(t, c), table(c), heights(c)
		for _, tower := range indices(len(all)) {
			if tower < 0 {
				continue
			}
			is := 1 <= tower && tower <= len(all)
			at, e := l.Latch(api.Ref(tower))
			w.expect(t, at, e, is, api.Place{Kind: api.AtTower, Index: tower, Word: 3}, "Latch:", c, tower)
			for _, level := range around(-7, 8) {
				at, e := l.Next(api.Ref(tower), level)
				has := is && 0 <= level && level < all[tower-1]
				w.expect(t, at, e, has, api.Place{Kind: api.AtTower, Index: tower, Word: 5 + level}, "Next:", c, tower, level)
			}
		}
	}
}

// P9.2: Next and Latch of heads
func TestNodesThatAreHeads(t *testing.T) {
	for _, c := range configs() {
		l, w, n := made(t, c), table(c), values(c.Domain)
		for _, r := range around(-n-4, -1) {
			if r >= 0 {
				continue
			}
			value := -1 - r
			is := value < n
			at, e := l.Latch(api.Ref(r))
			w.expect(t, at, e, is, api.Place{Kind: api.AtHead, Index: value, Word: 0}, "Latch:", c, r)
			for _, level := range around(-7, 8) {
				at, e := l.Next(api.Ref(r), level)
				w.expect(t, at, e, is && 0 <= level && level < 6, api.Place{Kind: api.AtHead, Index: value, Word: 1 + level}, "Next:", c, r, level)
			}
		}
	}
}

// P9.3: every address, and addresses that do not exist
func TestOf(t *testing.T) {
	for _, c := range configs() {
		l, w := made(t, c), table(c)
		for addr, want := range w.words {
			if p := l.Of(addr); p != want {
				t.Error("Of:", c, addr, p, "and not", want)
			}
		}
		n := len(w.words)
		for _, addr := range append(slices.Clone(far), -2, -1, -n, n, n+1, n+2, 2*n, 1<<32+n-1) {
			if p := l.Of(addr); p != (api.Place{}) {
				t.Error("Of an address that does not exist:", c, addr, p)
			}
		}
	}
}

// P9.4: the words of a new store
func TestInitial(t *testing.T) {
	for _, c := range configs() {
		l, w, all := made(t, c), table(c), heights(c)
		want := make([]uint64, len(w.words))
		for i, height := range all {
			if i == 0 || all[i-1] != height {
				want[w.at[api.Place{Kind: api.AtPool, Index: height - 1}]] = uint64(i + 1)
			}
			if i+1 < len(all) && all[i+1] == height {
				want[w.at[api.Place{Kind: api.AtLink, Index: i + 1}]] = uint64(i + 2)
			}
		}
		if got := l.Initial(); !slices.Equal(got, want) {
			t.Error("Initial:", c, got, "and not", want)
		}
	}
}

// P9.4: the pool of each height has all towers of that height
func TestPools(t *testing.T) {
	for _, c := range configs() {
		l := made(t, c)
		words, p := l.Initial(), l.Places()
		tower := 1
		for i, n := range c.Towers {
			at := int(words[p.Pools+i])
			for range n {
				if height, _ := l.Height(at); at != tower || height != i+1 {
					t.Error("a tower in the wrong pool:", c, i, at, height, "and not", tower)
				}
				at = int(words[p.Links+tower-1])
				tower++
			}
			if at != 0 {
				t.Error("a pool that does not end:", c, i, at)
			}
		}
	}
}

// start returns the address at which a word is according to the first address of its group; false for heads and towers.
func start(p api.Layout, at api.Place) (int, bool) {
	switch at.Kind {
	case api.AtOwner:
		return p.Owners + at.Index, true
	case api.AtEngine:
		return p.Engine + at.Word, true
	case api.AtMaster:
		return p.Master, true
	case api.AtLock:
		return p.Locks + 3*at.Index + at.Word, true
	case api.AtDesc:
		return p.Descs + at.Index, true
	case api.AtPool:
		return p.Pools + at.Index, true
	case api.AtLink:
		return p.Links + at.Index - 1, true
	}
	return 0, false
}

// back returns the address at which the functions say that a word is.
func back(l *Layout, at api.Place) (int, api.Errno) {
	if addr, some := start(l.Places(), at); some {
		return addr, api.OK
	}
	head := api.Ref(-1 - at.Index)
	switch {
	case at.Kind == api.AtHead && at.Word == 0:
		return l.Latch(head)
	case at.Kind == api.AtHead:
		return l.Next(head, at.Word-1)
	case at.Kind == api.AtTower && at.Word < 5:
		return l.Word(at.Index, at.Word)
	case at.Kind == api.AtTower:
		return l.Next(api.Ref(at.Index), at.Word-5)
	}
	return 0, api.ErrNone
}

// P9.5: all addresses are those of different words, to which the functions lead back
func TestDisjoint(t *testing.T) {
	for _, c := range configs() {
		l := made(t, c)
		p := l.Places()
		seen := map[api.Place]bool{}
		for addr := range p.Words {
			at := l.Of(addr)
			if at.Kind == api.AtNone || seen[at] {
				t.Error("an address of no word, or of one that has another:", c, addr, at)
			}
			seen[at] = true
			if got, e := back(l, at); got != addr || e != api.OK {
				t.Error("a word that leads to another address:", c, addr, at, got, e)
			}
			if at.Kind == api.AtTower && at.Word == 3 {
				if got, e := l.Latch(api.Ref(at.Index)); got != addr || e != api.OK {
					t.Error("Latch:", c, addr, at, got, e)
				}
			}
		}
	}
}

// P9.6: heights in ascending order, and as many of each as the configuration says
func TestHeights(t *testing.T) {
	for _, c := range configs() {
		l := made(t, c)
		before, counts := 1, towers{}
		for tower := 1; tower <= l.Towers(); tower++ {
			height, e := l.Height(tower)
			if e != api.OK || height < before || height > api.MaxHeight {
				t.Fatal("Height:", c, tower, height, e, "after", before)
			}
			before = height
			counts[height-1]++
		}
		if counts != c.Towers {
			t.Error("towers of each height:", counts, "and not", c.Towers)
		}
	}
}

// The examples of the chapter.
func TestExamples(t *testing.T) {
	l := made(t, example())
	want := api.Layout{Owners: 0, Engine: 2, Master: 6, Locks: 7, Descs: 10, Pools: 11, Links: 17, Heads: 20, Towers: 34, Words: 53}
	if p := l.Places(); p != want {
		t.Error("Places:", p, "and not", want)
	}
	if n := l.Towers(); n != 3 {
		t.Error("Towers:", n)
	}
	returns := func(want int, wanted api.Errno) func(got int, e api.Errno) {
		return func(got int, e api.Errno) {
			t.Helper()
			if got != want || e != wanted {
				t.Error("result:", got, e, "and not", want, wanted)
			}
		}
	}
	returns(2, api.OK)(l.Height(3))
	returns(0, api.ErrRange)(l.Height(4))
	returns(34, api.OK)(l.Word(1, 0))
	returns(44, api.OK)(l.Word(2, 4))
	returns(52, api.OK)(l.Next(3, 1))
	returns(0, api.ErrRange)(l.Next(2, 1))
	returns(33, api.OK)(l.Next(-2, 5))
	returns(20, api.OK)(l.Latch(-1))
	returns(0, api.ErrRange)(l.Latch(-3))
	for addr, want := range map[int]api.Place{
		52: {Kind: api.AtTower, Index: 3, Word: 6},
		27: {Kind: api.AtHead, Index: 1},
		17: {Kind: api.AtLink, Index: 1},
		53: {},
	} {
		if p := l.Of(addr); p != want {
			t.Error("Of:", addr, p, "and not", want)
		}
	}
	words := make([]uint64, 53)
	words[11], words[12], words[17] = 1, 3, 2
	if got := l.Initial(); !slices.Equal(got, words) {
		t.Error("Initial:", got, "and not", words)
	}
}
