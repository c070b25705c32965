package tests

import (
	"math"
	"slices"
	"testing"

	"loop.example/garner/impl"
)

// usesMax is the greatest count of a slot.
const usesMax = 99

// fullPieces are as many pieces as there are slots; no two of them have the same start.
var fullPieces = []string{"a", "b", "c", "d", "ab", "da", "ac", "ddd"}

func storeOf(slots ...impl.Slot) []impl.Slot {
	s := impl.StoreNew()
	copy(s, slots)
	return s
}

// put is StorePut, which must succeed.
func put(t *testing.T, s []impl.Slot, text string) ([]impl.Slot, int) {
	t.Helper()
	out, place, ok := impl.StorePut(s, text)
	if !ok || !impl.StoreOk(out) {
		t.Fatalf("put %q into %v: %v %d %v", text, s, out, place, ok)
	}
	return out, place
}

// drop is StoreDrop, which must succeed.
func drop(t *testing.T, s []impl.Slot, place int) []impl.Slot {
	t.Helper()
	out, ok := impl.StoreDrop(s, place)
	if !ok || !impl.StoreOk(out) {
		t.Fatalf("drop %d of %v: %v %v", place, s, out, ok)
	}
	return out
}

// fullStore has no free slot.
func fullStore() []impl.Slot {
	s := impl.StoreNew()
	for i, text := range fullPieces {
		s[i] = impl.Slot{Text: text, Uses: i*i + 1}
	}
	return s
}

// walk gives the stores on a fixed walk of puts and drops, all of them valid; it is made without StorePut and StoreDrop.
func walk() [][]impl.Slot {
	var out [][]impl.Slot
	pieces := allPieces()[1:]
	s := impl.StoreNew()
	next := numbers(1)
	for range 300 {
		i := next(len(s))
		text := pieces[next(len(pieces))]
		has := slices.ContainsFunc(s, func(x impl.Slot) bool { return x.Text == text })
		switch {
		case next(3) == 0:
			s[i] = impl.Slot{}
		case !has:
			s[i] = impl.Slot{Text: text, Uses: 1 + next(usesMax)}
		}
		out = append(out, slices.Clone(s))
	}
	return out
}

// stores are valid slot stores: empty, full, with gaps, with counts at their limits.
func stores() [][]impl.Slot {
	almost := fullStore()
	almost[3] = impl.Slot{}
	all99 := fullStore()
	all1 := fullStore()
	for i := range all99 {
		all99[i].Uses = usesMax
		all1[i].Uses = 1
	}
	return append([][]impl.Slot{
		impl.StoreNew(), fullStore(), almost, all99, all1,
		storeOf(impl.Slot{Text: "a", Uses: usesMax}),
		storeOf(impl.Slot{}, impl.Slot{Text: "a", Uses: 1}),
		storeOf(impl.Slot{Text: "abcd", Uses: 2}, impl.Slot{}, impl.Slot{Text: "dddd", Uses: 98}),
	}, walk()...)
}

// noStores are not slot stores.
func noStores() map[string][]impl.Slot {
	full := fullStore()
	with := func(i int, slot impl.Slot) []impl.Slot {
		s := fullStore()
		s[i] = slot
		return s
	}
	return map[string][]impl.Slot{
		"nil":                       nil,
		"no slots":                  {},
		"one slot":                  {{Text: "a", Uses: 1}},
		"one full slot less":        full[:7],
		"one full slot more":        append(fullStore(), impl.Slot{Text: "dddd", Uses: 1}),
		"one free slot less":        impl.StoreNew()[:7],
		"one free slot more":        append(impl.StoreNew(), impl.Slot{}),
		"twice as many":             append(impl.StoreNew(), impl.StoreNew()...),
		"a piece repeated":          with(1, impl.Slot{Text: "a", Uses: 1}),
		"a piece repeated, last":    with(7, impl.Slot{Text: "a", Uses: 1}),
		"a piece repeated, alike":   storeOf(impl.Slot{Text: "b", Uses: 2}, impl.Slot{}, impl.Slot{Text: "b", Uses: 2}),
		"a piece with count 0":      with(2, impl.Slot{Text: "c"}),
		"a new piece with count 0":  storeOf(impl.Slot{Text: "dddd"}),
		"a last piece with count 0": with(7, impl.Slot{Text: "ddd"}),
		"a repeated one, count 0":   with(7, impl.Slot{Text: "a"}),
		"a count without a piece":   with(5, impl.Slot{Uses: 1}),
		"only a count":              storeOf(impl.Slot{Uses: usesMax}),
		"a count below 0":           with(0, impl.Slot{Text: "a", Uses: -1}),
		"a free count below 0":      with(0, impl.Slot{Uses: -1}),
		"a least count":             with(4, impl.Slot{Text: "ab", Uses: math.MinInt}),
		"a count of 100":            with(0, impl.Slot{Text: "a", Uses: usesMax + 1}),
		"a last count of 100":       with(7, impl.Slot{Text: "ddd", Uses: usesMax + 1}),
		"a count that wraps":        with(3, impl.Slot{Text: "d", Uses: 257}),
		"a greatest count":          with(3, impl.Slot{Text: "d", Uses: math.MaxInt}),
		"another letter":            with(6, impl.Slot{Text: "e", Uses: 1}),
		"another letter, free":      with(6, impl.Slot{Text: "e"}),
		"a capital":                 with(6, impl.Slot{Text: "aB", Uses: 1}),
		"a blank":                   with(6, impl.Slot{Text: " ", Uses: 1}),
		"five letters":              with(6, impl.Slot{Text: "aaaaa", Uses: 1}),
		"a byte of zero":            with(6, impl.Slot{Text: "a\x00", Uses: 1}),
	}
}

// noSlots are numbers that no slot has, those that wrap around to one among them.
func noSlots() []int {
	return []int{
		0, -1, -2, -7, -8, -9, -math.MaxInt, math.MinInt, math.MinInt + 1,
		9, 10, 16, 17, 256, 257, 1 << 32, 1<<32 + 1, math.MaxInt, math.MaxInt - 6,
	}
}

// countOf is how many references to text a store has; each piece is in at most one slot.
func countOf(s []impl.Slot, text string) int {
	for _, x := range s {
		if x.Text == text {
			return x.Uses
		}
	}
	return 0
}

// wantFind is the slot of text, told from the slots alone.
func wantFind(s []impl.Slot, text string) int {
	return slices.IndexFunc(s, func(x impl.Slot) bool { return x.Text == text && text != "" }) + 1
}

// wantPut is the slot in which StorePut must put text, or 0, told from the slots alone.
func wantPut(s []impl.Slot, text string) int {
	if place := wantFind(s, text); place != 0 {
		if s[place-1].Uses == usesMax {
			return 0
		}
		return place
	}
	place := impl.TextPlace(text)
	for range impl.SlotMax {
		if s[place-1].Uses == 0 {
			return place
		}
		place = impl.TextNext(place)
	}
	return 0
}

// pieceSample is some pieces, those of the full store and those of every length among them.
func pieceSample() []string {
	return append([]string{"aa", "bb", "ad", "dd", "aaa", "cba", "aaaa", "abcd", "dcba", "dddd", "bbbb"}, fullPieces...)
}

// P4: exactly the pieces that a slot stores are found, each in its slot.
func TestStoreFindOfAllPieces(t *testing.T) {
	for _, s := range stores() {
		for _, text := range allPieces() {
			want := wantFind(s, text)
			if place, ok := impl.StoreFind(s, text); place != want || ok != (want != 0) {
				t.Fatalf("%q in %v: %d %v, not %d", text, s, place, ok, want)
			}
		}
	}
}

// P4: the empty piece and what is no piece are not found, not even where a slot is free.
func TestStoreFindOfNoPiece(t *testing.T) {
	for _, s := range stores() {
		for _, text := range append(noPieces(), "") {
			if place, ok := impl.StoreFind(s, text); place != 0 || ok {
				t.Fatalf("%.20q in %v: %d %v", text, s, place, ok)
			}
		}
	}
}

// P4: nothing is found in what is not a slot store, even if a slot of it has the piece.
func TestStoreFindInNoStore(t *testing.T) {
	for name, s := range noStores() {
		texts := append(pieceSample(), "", "e", "aB", " ", "aaaaa")
		for _, text := range texts {
			if place, ok := impl.StoreFind(s, text); place != 0 || ok {
				t.Errorf("%s, %q: %d %v", name, text, place, ok)
			}
		}
	}
}

// P5, P6: StorePut of every piece: the slot, its count, and all other slots.
func TestStorePutOfAllPieces(t *testing.T) {
	for _, s := range stores() {
		for _, text := range allPieces()[1:] {
			at := wantPut(s, text)
			want := slices.Clone(s)
			if at != 0 {
				want[at-1] = impl.Slot{Text: text, Uses: s[at-1].Uses + 1}
			}
			out, place, ok := impl.StorePut(s, text)
			if place != at || ok != (at != 0) || !slices.Equal(out, want) {
				t.Fatalf("%q into %v: %v %d %v, not %v %d", text, s, out, place, ok, want, at)
			}
		}
	}
}

// P5: a stored piece is not stored again, though a slot ahead of it was freed since.
func TestStorePutAfterAFreedSlot(t *testing.T) {
	s, first := put(t, impl.StoreNew(), "a")
	s, second := put(t, s, "ad")
	s, _ = put(t, s, "dddc")
	if first != 2 || second != 3 {
		t.Fatal(first, second)
	}
	s = drop(t, s, first)
	s, place := put(t, s, "ad")
	if place != second || s[1] != (impl.Slot{}) || s[2] != (impl.Slot{Text: "ad", Uses: 2}) {
		t.Errorf("%d: %v", place, s)
	}
	s, place = put(t, s, "a")
	if place != first || s[1] != (impl.Slot{Text: "a", Uses: 1}) || s[2].Uses != 2 {
		t.Errorf("%d: %v", place, s)
	}
}

// P5: a piece in whichever slot is the one whose count grows, with every slot ahead of it free.
func TestStorePutOfAPieceFarFromItsStart(t *testing.T) {
	for _, text := range pieceSample() {
		for i := range impl.SlotMax {
			s := impl.StoreNew()
			s[i] = impl.Slot{Text: text, Uses: 4}
			out, place := put(t, s, text)
			s[i].Uses = 5
			if place != i+1 || !slices.Equal(out, s) {
				t.Errorf("%q in slot %d: %d %v", text, i+1, place, out)
			}
		}
	}
}

// P5: counts grow up to 99 and no further; then the slots are returned unchanged.
func TestStorePutUpTo99(t *testing.T) {
	s := impl.StoreNew()
	for i := range usesMax {
		var place int
		s, place = put(t, s, "abcd")
		if place != 7 || s[6] != (impl.Slot{Text: "abcd", Uses: i + 1}) || impl.StoreFree(s) != 7 {
			t.Fatalf("%d: %d %v", i+1, place, s)
		}
	}
	for range 2 {
		out, place, ok := impl.StorePut(s, "abcd")
		if ok || place != 0 || !slices.Equal(out, s) {
			t.Fatalf("one more: %v %d %v", out, place, ok)
		}
		s = out
	}
	// Another piece has the same start and is put beside it.
	if out, place := put(t, s, "da"); place != 8 || out[6].Uses != usesMax {
		t.Error(place, out)
	}
}

// P6: a new piece takes its first slot, the next free one, or, after the last, the first.
func TestStorePutProbes(t *testing.T) {
	used := func(places ...int) []impl.Slot {
		s := impl.StoreNew()
		for _, place := range places {
			s[place-1] = impl.Slot{Text: []string{"aaaa", "aaab", "aaac", "aaad", "aaba", "aabb", "aabc", "aabd"}[place-1], Uses: place}
		}
		return s
	}
	for _, c := range []struct {
		text string
		used []int
		want int
	}{
		{"a", nil, 2},
		{"a", []int{1}, 2},
		{"a", []int{2}, 3},
		{"a", []int{2, 4}, 3},
		{"a", []int{2, 3, 4, 5, 6, 7}, 8},
		{"a", []int{2, 3, 4, 5, 6, 7, 8}, 1},
		{"a", []int{1, 2, 3, 4, 5, 6, 8}, 7},
		{"ac", nil, 8},
		{"ac", []int{8}, 1},
		{"ac", []int{8, 1}, 2},
		{"ac", []int{8, 1, 2, 3, 4, 5, 6}, 7},
		{"ddd", nil, 1},
		{"ddd", []int{1, 2, 3, 4, 5, 6, 7}, 8},
		{"abc", []int{7, 8}, 1},
	} {
		s := used(c.used...)
		out, place := put(t, s, c.text)
		if place != c.want || out[c.want-1] != (impl.Slot{Text: c.text, Uses: 1}) {
			t.Errorf("%q with %v in use: %d, not %d", c.text, c.used, place, c.want)
		}
	}
}

// P6: with no free slot a new piece fails and changes nothing; a stored one is counted all the same.
func TestStorePutIntoAFullStore(t *testing.T) {
	full := fullStore()
	for _, text := range allPieces()[1:] {
		if wantFind(full, text) != 0 {
			continue
		}
		out, place, ok := impl.StorePut(full, text)
		if ok || place != 0 || !slices.Equal(out, full) {
			t.Fatalf("%q: %v %d %v", text, out, place, ok)
		}
	}
	for i, text := range fullPieces {
		want := fullStore()
		want[i].Uses++
		if out, place := put(t, full, text); place != i+1 || !slices.Equal(out, want) {
			t.Errorf("%q: %d %v", text, place, out)
		}
	}
}

// P6: the one free slot is found from every start; the next new piece fails.
func TestStorePutIntoTheLastFreeSlot(t *testing.T) {
	for i := range impl.SlotMax {
		s := fullStore()
		s[i] = impl.Slot{}
		for _, text := range []string{"aa", "bb", "ad", "dd", "aaa", "cba", "aaaa", "abcd", "dcba"} {
			out, place := put(t, s, text)
			if place != i+1 {
				t.Errorf("%q with slot %d free: %d", text, i+1, place)
			}
			if again, place, ok := impl.StorePut(out, "dddd"); ok || place != 0 || !slices.Equal(again, out) {
				t.Errorf("one more after %q: %v %d %v", text, again, place, ok)
			}
		}
	}
}

// P5, P6: the empty piece and what is no piece give no slots, whether slots are free or not.
func TestStorePutOfNoPiece(t *testing.T) {
	for _, s := range stores()[:8] {
		for _, text := range append(noPieces(), "") {
			if out, place, ok := impl.StorePut(s, text); ok || place != 0 || len(out) != 0 {
				t.Fatalf("%.20q into %v: %v %d %v", text, s, out, place, ok)
			}
		}
	}
}

// P5, P6, P11: nothing is put into what is not a slot store, be the piece new, stored or none.
func TestStorePutIntoNoStore(t *testing.T) {
	for name, s := range noStores() {
		for _, text := range append(pieceSample(), "", "e", "aaaaa") {
			if out, place, ok := impl.StorePut(s, text); ok || place != 0 || len(out) != 0 {
				t.Errorf("%s, %q: %v %d %v", name, text, out, place, ok)
			}
		}
	}
}

// P7: dropping the slot of a put restores the slots.
func TestStorePutThenDrop(t *testing.T) {
	for _, s := range stores() {
		for _, text := range pieceSample() {
			if wantPut(s, text) == 0 {
				continue
			}
			out, place := put(t, s, text)
			if back := drop(t, out, place); !slices.Equal(back, s) {
				t.Fatalf("%q: %v, not %v", text, back, s)
			}
		}
	}
}
