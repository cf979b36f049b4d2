package field

import (
	"math"
	"testing"

	"leapfrog/api"
)

// numbers are parts of words: ordinary ones, the ends of the ranges, and what lies just beyond them.
var numbers = []uint64{0, 1, 2, 3, 77, 1 << 16, 1<<39 + 5, 1<<40 - 2, 1<<40 - 1, 1 << 40, 1<<40 + 1, 1 << 48, 1 << 63, 1<<64 - 1}

// integers are towers and entries: all that are valid, and others.
func integers() []int {
	list := []int{math.MinInt, -1 << 32, -1 << 16, -2, -1}
	for n := 0; n <= 1100; n++ {
		list = append(list, n)
	}
	return append(list, 1<<13, 1<<16, 1<<16+1, 1<<32, math.MaxInt)
}

// samples returns words of all forms, and words that differ from them in one bit.
func samples() []uint64 {
	var list []uint64
	for low := uint64(0); low < 200; low++ {
		for _, n := range numbers {
			list = append(list, low+n<<16, low+n<<1)
		}
	}
	for _, n := range numbers {
		list = append(list, 1024+n<<16, 1025+n<<16, 1<<16-1+n<<16)
		for bit := range 64 {
			list = append(list, n^1<<bit, (n<<16+131)^1<<bit)
		}
	}
	return list
}

// states returns state words of all kinds and entries.
func states() []uint64 {
	list := []uint64{0, 1, 2}
	for kind := uint64(3); kind <= 5; kind++ {
		for entry := uint64(0); entry < 16; entry++ {
			for _, gen := range []uint64{0, 1, 2, 1<<40 - 1} {
				list = append(list, kind+8*entry+65536*gen)
			}
		}
	}
	return list
}

// P1.1
func TestTop(t *testing.T) {
	for _, tag := range numbers {
		for _, tower := range integers() {
			w, e := Top(tag, tower)
			if tag >= 1<<40 || tower < 0 || tower > 1024 {
				if w != 0 || e != api.ErrArg {
					t.Error("Top of parts that are not valid:", tag, tower, w, e)
				}
				continue
			}
			if w != uint64(tower)+65536*tag || e != api.OK {
				t.Error("Top:", tag, tower, w, e)
			}
		}
	}
}

// P1.1
func TestTagAndTower(t *testing.T) {
	for _, w := range samples() {
		if Tag(w) != w/65536 || Tower(w) != int(w%65536) {
			t.Error("Tag, Tower:", w, Tag(w), Tower(w))
		}
	}
}

// P1.2
func TestState(t *testing.T) {
	for kind := range 256 {
		for _, entry := range integers() {
			for _, gen := range numbers {
				w, e := State(uint8(kind), entry, gen)
				plain := kind <= 2 && entry == 0 && gen == 0
				conditional := kind >= 3 && kind <= 5 && entry >= 0 && entry <= 15 && gen < 1<<40
				if !plain && !conditional {
					if w != 0 || e != api.ErrArg {
						t.Error("State of parts that are not valid:", kind, entry, gen, w, e)
					}
					continue
				}
				if w != uint64(kind)+8*uint64(entry)+65536*gen || e != api.OK {
					t.Error("State:", kind, entry, gen, w, e)
				}
			}
		}
	}
}

// P1.2
func TestCheck(t *testing.T) {
	for _, w := range states() {
		if e := Check(w); e != api.OK {
			t.Error("Check of a state word:", w, e)
		}
	}
	for _, w := range []uint64{3, 4, 5, 123, 124, 125, 1<<56 - 1<<16 + 3} {
		if e := Check(w); e != api.OK {
			t.Error("Check of a state word:", w, e)
		}
	}
	others := []uint64{6, 7, 8, 9, 10, 15, 65536, 65537, 65538, // no kind, or a plain kind with an entry or a generation
		131, 132, 133, 1<<15 + 3, // an entry beyond the last one
		1<<56 + 3, 1<<56 + 4, 1<<56 + 5, 1<<63 + 3, 1<<64 - 1} // a generation that is too great
	for _, w := range others {
		if e := Check(w); e != api.ErrForm {
			t.Error("Check of another word:", w, e)
		}
	}
}

// P1.3
func TestPartsOfStates(t *testing.T) {
	for _, w := range samples() {
		if Kind(w) != uint8(w%8) || Entry(w) != int(w%65536/8) || Gen(w) != w/65536 {
			t.Error("Kind, Entry, Gen:", w, Kind(w), Entry(w), Gen(w))
		}
	}
}

// P1.4
func TestDesc(t *testing.T) {
	for _, gen := range numbers {
		open, e := Desc(gen, false)
		closed, e2 := Desc(gen, true)
		if gen >= 1<<40 {
			if open != 0 || e != api.ErrArg || closed != 0 || e2 != api.ErrArg {
				t.Error("Desc of a generation that is too great:", gen, open, e, closed, e2)
			}
			continue
		}
		if open != 2*gen || e != api.OK || closed != 2*gen+1 || e2 != api.OK {
			t.Error("Desc:", gen, open, e, closed, e2)
		}
	}
	for _, w := range samples() {
		if DescGen(w) != w/2 || Committed(w) != (w%2 == 1) {
			t.Error("DescGen, Committed:", w, DescGen(w), Committed(w))
		}
	}
}

// says is what the document says of a valid state word and a descriptor, in its own words.
func says(state, desc uint64) (present, alt bool) {
	decided := desc/2 != state/65536 || desc%2 == 1
	kind := uint8(state % 8)
	present = kind == api.StLive || kind == api.StBorn && decided || kind == api.StGone && !decided || kind == api.StSwap
	return present, kind == api.StSwap && decided
}

// P1.5
func TestDecide(t *testing.T) {
	for _, state := range states() {
		for _, desc := range samples() {
			present, alt, e := Decide(state, desc)
			if desc/2 >= 1<<40 {
				if present || alt || e != api.ErrForm {
					t.Error("Decide by a word that is no descriptor:", state, desc, present, alt, e)
				}
				continue
			}
			p, a := says(state, desc)
			if present != p || alt != a || e != api.OK {
				t.Error("Decide:", state, desc, present, alt, e)
			}
		}
	}
}

// P1.5
func TestDecideForm(t *testing.T) {
	for _, state := range []uint64{6, 7, 9, 65537, 131, 133, 1<<56 + 3, 1<<56 + 5, 1<<64 - 1} {
		for _, desc := range []uint64{0, 1, 4, 5, 1<<41 - 1, 1 << 41, 1<<64 - 1} {
			if present, alt, e := Decide(state, desc); present || alt || e != api.ErrForm {
				t.Error("Decide of a word that is no state word:", state, desc, present, alt, e)
			}
		}
	}
}

// P1.6
func TestWordsAndPartsDetermineEachOther(t *testing.T) {
	type parts struct{ a, b, c uint64 }
	heads, descs, kinds := map[uint64]parts{}, map[uint64]parts{}, map[uint64]parts{}
	note := func(name string, seen map[uint64]parts, w uint64, p, back parts) {
		if old, have := seen[w]; have && old != p {
			t.Error(name, "has the same word for other parts:", w, old, p)
		}
		seen[w] = p
		if back != p {
			t.Error(name, "does not give its parts back:", w, p, back)
		}
	}
	bit := func(b bool) uint64 {
		if b {
			return 1
		}
		return 0
	}
	for _, n := range numbers {
		for _, i := range integers() {
			if w, e := Top(n, i); e == api.OK {
				note("a head", heads, w, parts{n, uint64(i), 0}, parts{Tag(w), uint64(Tower(w)), 0})
			}
			for kind := range uint8(8) {
				if w, e := State(kind, i, n); e == api.OK {
					note("a state word", kinds, w, parts{uint64(kind), uint64(i), n}, parts{uint64(Kind(w)), uint64(Entry(w)), Gen(w)})
				}
			}
		}
		for _, committed := range []bool{false, true} {
			if w, e := Desc(n, committed); e == api.OK {
				note("a descriptor", descs, w, parts{n, bit(committed), 0}, parts{DescGen(w), bit(Committed(w)), 0})
			}
		}
	}
	// Nine of the numbers are valid as tags and generations.
	if len(heads) != 9*1025 || len(kinds) != 3+3*16*9 || len(descs) != 9*2 {
		t.Error("words of valid parts:", len(heads), len(kinds), len(descs))
	}
}

// P1.7
func TestWordsOfTheirParts(t *testing.T) {
	for _, w := range append(samples(), states()...) {
		again, e := State(Kind(w), Entry(w), Gen(w))
		if same := e == api.OK && again == w; same != (Check(w) == api.OK) {
			t.Error("a state word of its parts:", w, again, e, Check(w))
		}
		again, e = Desc(DescGen(w), Committed(w))
		// Decide takes exactly the descriptors, whatever a plain state word says.
		_, _, e2 := Decide(1, w)
		if same := e == api.OK && again == w; same != (e2 == api.OK) || same != (w < 1<<41) {
			t.Error("a descriptor of its parts:", w, again, e, e2)
		}
	}
}

// answer is what Decide returns.
type answer struct {
	present, alt bool
	e            api.Errno
}

// decide returns what Decide returns for a descriptor with these parts.
func decide(t *testing.T, state, gen uint64, committed bool) answer {
	desc, e := Desc(gen, committed)
	if e != api.OK {
		t.Fatal("Desc:", gen, e)
	}
	present, alt, e := Decide(state, desc)
	return answer{present, alt, e}
}

// P1.8
func TestOneStoreDecides(t *testing.T) {
	before := map[uint8]answer{api.StBorn: {}, api.StGone: {present: true}, api.StSwap: {present: true}}
	after := map[uint8]answer{api.StBorn: {present: true}, api.StGone: {}, api.StSwap: {present: true, alt: true}}
	gens := []uint64{0, 1, 2, 3, 1<<40 - 2, 1<<40 - 1}
	for _, state := range states() {
		for _, gen := range gens {
			was, is := decide(t, state, gen, false), decide(t, state, gen, true)
			if kind := Kind(state); kind >= api.StBorn && Gen(state) == gen {
				if was != before[kind] || is != after[kind] {
					t.Error("a commit:", state, gen, was, is)
				}
			} else if was != is {
				t.Error("a commit changes a state word of another generation:", state, gen, was, is)
			}
			for _, later := range gens {
				if later == Gen(state) || gen != Gen(state) {
					continue
				}
				if decide(t, state, later, false) != is || decide(t, state, later, true) != is {
					t.Error("another generation says something else than the commit:", state, gen, later)
				}
			}
		}
	}
}

// P1.1 to P1.4: the examples of the chapter
func TestExamplesOfWords(t *testing.T) {
	if w, e := Top(3, 2); w != 196610 || e != api.OK || Tag(w) != 3 || Tower(w) != 2 {
		t.Error("Top(3, 2):", w, e)
	}
	if w, e := State(api.StBorn, 1, 2); w != 131083 || e != api.OK || Kind(w) != 3 || Entry(w) != 1 || Gen(w) != 2 {
		t.Error("State(StBorn, 1, 2):", w, e)
	}
	if w, e := Desc(5, true); w != 11 || e != api.OK || DescGen(w) != 5 || !Committed(w) {
		t.Error("Desc(5, true):", w, e)
	}
	for w, want := range map[uint64]api.Errno{1: api.OK, 9: api.ErrForm, 131: api.ErrForm, 6: api.ErrForm} {
		if e := Check(w); e != want {
			t.Error("Check:", w, e)
		}
	}
	refused := func(call string, w uint64, e api.Errno) {
		if w != 0 || e != api.ErrArg {
			t.Error(call, w, e)
		}
	}
	w, e := Top(1<<40, 0)
	refused("Top(2^40, 0):", w, e)
	w, e = Top(0, 1025)
	refused("Top(0, 1025):", w, e)
	w, e = Top(0, -1)
	refused("Top(0, -1):", w, e)
	w, e = State(api.StLive, 1, 0)
	refused("State(StLive, 1, 0):", w, e)
	w, e = State(api.StGone, 16, 0)
	refused("State(StGone, 16, 0):", w, e)
	w, e = State(6, 0, 0)
	refused("State(6, 0, 0):", w, e)
	w, e = Desc(1<<40, false)
	refused("Desc(2^40, false):", w, e)
}

// P1.5: the examples of the chapter
func TestExamplesOfDecide(t *testing.T) {
	for _, x := range []struct {
		state, desc uint64
		want        answer
	}{
		{131083, 4, answer{}},
		{131083, 5, answer{present: true}},
		{131083, 6, answer{present: true}},
		{131076, 4, answer{present: true}},
		{131076, 5, answer{}},
		{131077, 4, answer{present: true}},
		{131077, 5, answer{present: true, alt: true}},
		{1, 0, answer{present: true}},
		{9, 0, answer{e: api.ErrForm}},
		{1, 1 << 41, answer{e: api.ErrForm}},
	} {
		present, alt, e := Decide(x.state, x.desc)
		if got := (answer{present, alt, e}); got != x.want {
			t.Error("Decide:", x.state, x.desc, got)
		}
	}
}
