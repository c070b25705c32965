package tests

import (
	"slices"
	"testing"

	"loop.example/garner/impl"
)

// P8: StoreDrop of every slot: its count, whether it is free then, and all other slots.
func TestStoreDropOfAllSlots(t *testing.T) {
	for _, s := range stores() {
		for i, x := range s {
			out, ok := impl.StoreDrop(s, i+1)
			if x.Uses == 0 {
				if ok || len(out) != 0 {
					t.Fatalf("slot %d of %v is free: %v %v", i+1, s, out, ok)
				}
				continue
			}
			want := slices.Clone(s)
			want[i] = impl.Slot{Text: x.Text, Uses: x.Uses - 1}
			if x.Uses == 1 {
				want[i] = impl.Slot{}
			}
			if !ok || !slices.Equal(out, want) {
				t.Fatalf("slot %d of %v: %v %v", i+1, s, out, ok)
			}
		}
	}
}

// P8: a count of 1 is the last reference; a count of 99 is not.
func TestStoreDropAtTheLimits(t *testing.T) {
	s := storeOf(impl.Slot{Text: "a", Uses: 1}, impl.Slot{Text: "b", Uses: 2}, impl.Slot{}, impl.Slot{Text: "d", Uses: usesMax})
	for _, c := range []struct {
		place int
		want  impl.Slot
		free  int
	}{
		{1, impl.Slot{}, 6},
		{2, impl.Slot{Text: "b", Uses: 1}, 5},
		{4, impl.Slot{Text: "d", Uses: 98}, 5},
	} {
		out := drop(t, s, c.place)
		if out[c.place-1] != c.want || impl.StoreFree(out) != c.free {
			t.Errorf("slot %d: %v", c.place, out)
		}
	}
}

// P8: slots that there are not, also where all are in use.
func TestStoreDropOfNoSlot(t *testing.T) {
	for _, s := range stores()[:8] {
		for _, place := range noSlots() {
			if out, ok := impl.StoreDrop(s, place); ok || len(out) != 0 {
				t.Errorf("slot %d of %v: %v %v", place, s, out, ok)
			}
		}
	}
}

// P8, P11: nothing is dropped from what is not a slot store.
func TestStoreDropOfNoStore(t *testing.T) {
	for name, s := range noStores() {
		for place := -1; place <= impl.SlotMax+2; place++ {
			if out, ok := impl.StoreDrop(s, place); ok || len(out) != 0 {
				t.Errorf("%s, slot %d: %v %v", name, place, out, ok)
			}
		}
	}
}

// P9: a new store has SlotMax slots, all of them free.
func TestStoreNew(t *testing.T) {
	s := impl.StoreNew()
	if len(s) != impl.SlotMax || !impl.StoreOk(s) || impl.StoreFree(s) != impl.SlotMax {
		t.Error(s)
	}
	for i, x := range s {
		if x != (impl.Slot{}) {
			t.Errorf("slot %d: %v", i+1, x)
		}
	}
}

// P9: the number of slots with count 0.
func TestStoreFreeOfStores(t *testing.T) {
	for _, s := range stores() {
		want := 0
		for _, x := range s {
			if x.Uses == 0 {
				want++
			}
		}
		if got := impl.StoreFree(s); got != want {
			t.Errorf("%v: %d, not %d", s, got, want)
		}
	}
	if impl.StoreFree(fullStore()) != 0 {
		t.Error("the full store")
	}
}

// P9: what is not a slot store has -1 free slots, not 0.
func TestStoreFreeOfNoStore(t *testing.T) {
	for name, s := range noStores() {
		if got := impl.StoreFree(s); got != -1 {
			t.Errorf("%s: %d", name, got)
		}
	}
}

// P9: no piece is in two slots, after many puts and drops.
func TestStoreHasEachPieceOnce(t *testing.T) {
	s := impl.StoreNew()
	pieces := allPieces()[1:]
	for i := range 2000 {
		out, _, ok := impl.StorePut(s, pieces[i*i%17])
		if ok {
			s = out
		}
		if out, ok := impl.StoreDrop(s, i*7%impl.SlotMax+1); ok && i%3 != 0 {
			s = out
		}
		if !impl.StoreOk(s) {
			t.Fatal(s)
		}
		seen := map[string]bool{}
		for _, x := range s {
			if x.Text != "" && seen[x.Text] {
				t.Fatalf("%q twice: %v", x.Text, s)
			}
			seen[x.Text] = true
		}
	}
}

// P10: after two puts both pieces are found, in different slots if they differ, in either order.
func TestStorePutOfTwoPieces(t *testing.T) {
	for _, s := range stores()[:40] {
		for _, one := range pieceSample() {
			for _, two := range pieceSample() {
				checkTwo(t, s, one, two)
				checkTwo(t, s, two, one)
			}
		}
	}
}

func checkTwo(t *testing.T, s []impl.Slot, one, two string) {
	t.Helper()
	s1, p1, ok1 := impl.StorePut(s, one)
	s2, p2, ok2 := impl.StorePut(s1, two)
	if !ok1 || !ok2 {
		return
	}
	f1, found1 := impl.StoreFind(s2, one)
	f2, found2 := impl.StoreFind(s2, two)
	if !found1 || !found2 || f1 != p1 || f2 != p2 || (p1 == p2) != (one == two) {
		t.Fatalf("%q and %q into %v: put in %d and %d, found in %d and %d", one, two, s, p1, p2, f1, f2)
	}
	more := 1
	if one == two {
		more = 2
	}
	if countOf(s2, one) != countOf(s, one)+more || countOf(s2, two) != countOf(s, two)+more {
		t.Fatalf("%q and %q into %v: %v", one, two, s, s2)
	}
}

// P10: two pieces with the same start are put side by side; which is first depends on the order.
func TestStorePutOfTwoPiecesWithOneStart(t *testing.T) {
	s, p1 := put(t, impl.StoreNew(), "a")
	_, p2 := put(t, s, "ad")
	if p1 != 2 || p2 != 3 {
		t.Error(p1, p2)
	}
	s, p2 = put(t, impl.StoreNew(), "ad")
	_, p1 = put(t, s, "a")
	if p1 != 3 || p2 != 2 {
		t.Error(p1, p2)
	}
}

// P11: what is a slot store, and what is not.
func TestStoreOk(t *testing.T) {
	for _, s := range stores() {
		if !impl.StoreOk(s) {
			t.Errorf("%v is a slot store", s)
		}
	}
	for name, s := range noStores() {
		if impl.StoreOk(s) {
			t.Errorf("%s: %v is no slot store", name, s)
		}
	}
}

// P11: every store becomes invalid with a count of 0, a piece repeated, one slot less or more, or a piece that is none.
func TestStoreOkOfChangedStores(t *testing.T) {
	for _, s := range stores() {
		for i, x := range s {
			with := func(what string, y impl.Slot) {
				other := slices.Clone(s)
				other[i] = y
				if impl.StoreOk(other) {
					t.Errorf("%s in slot %d: %v", what, i+1, other)
				}
			}
			for _, y := range s {
				if y.Text != "" && y.Text != x.Text {
					with("a piece repeated", y)
					with("a piece repeated with another count", impl.Slot{Text: y.Text, Uses: y.Uses%usesMax + 1})
				}
			}
			with("another count", impl.Slot{Text: x.Text, Uses: usesMax + 1})
			with("another count", impl.Slot{Text: x.Text, Uses: -1})
			with("no piece", impl.Slot{Text: "abce", Uses: 1})
			with("no piece, free", impl.Slot{Text: "abce"})
			with("a count without a piece", impl.Slot{Uses: 1})
			with("a piece with count 0", impl.Slot{Text: "bcda"})
			less := slices.Delete(slices.Clone(s), i, i+1)
			more := slices.Insert(slices.Clone(s), i, impl.Slot{})
			if impl.StoreOk(less) || impl.StoreOk(more) {
				t.Errorf("%v with slot %d left out or put in", s, i+1)
			}
		}
	}
}

// P12: as many drops as the count free the slot; one more fails; all other slots are unchanged.
func TestStoreDropUntilFree(t *testing.T) {
	for _, s := range stores()[:40] {
		for i, x := range s {
			out := slices.Clone(s)
			for range x.Uses {
				out = drop(t, out, i+1)
			}
			want := slices.Clone(s)
			want[i] = impl.Slot{}
			if !slices.Equal(out, want) {
				t.Fatalf("slot %d of %v: %v", i+1, s, out)
			}
			if more, ok := impl.StoreDrop(out, i+1); ok || len(more) != 0 {
				t.Fatalf("slot %d of %v, once more: %v %v", i+1, s, more, ok)
			}
			if x.Text == "" {
				continue
			}
			if place, ok := impl.StoreFind(out, x.Text); place != 0 || ok {
				t.Fatalf("%q is still found in %v", x.Text, out)
			}
		}
	}
}

// P13: putting another piece, or dropping another slot, does not change where a piece is found.
func TestStoreFindStays(t *testing.T) {
	for _, s := range stores()[:60] {
		for _, text := range pieceSample() {
			place, ok := impl.StoreFind(s, text)
			for _, other := range pieceSample() {
				if other == text {
					continue
				}
				out, _, _ := impl.StorePut(s, other)
				if p, o := impl.StoreFind(out, text); p != place || o != ok {
					t.Fatalf("%q after a put of %q into %v: %d %v", text, other, s, p, o)
				}
			}
			for i := range s {
				out, dropped := impl.StoreDrop(s, i+1)
				if !dropped || i+1 == place {
					continue
				}
				if p, o := impl.StoreFind(out, text); p != place || o != ok {
					t.Fatalf("%q after a drop of %d of %v: %d %v", text, i+1, s, p, o)
				}
			}
		}
	}
}

// roomy is a copy of s with further slots behind its end, which a function must not write either.
func roomy(s []impl.Slot) []impl.Slot {
	long := append(slices.Clone(s), slices.Repeat([]impl.Slot{{Text: "behind", Uses: 7}}, 2*impl.SlotMax)...)
	return long[:len(s)]
}

// scratch writes to all the memory of a result, that behind its end too.
func scratch(s []impl.Slot) {
	s = s[:cap(s)]
	for i := range s {
		s[i] = impl.Slot{Text: "scratch", Uses: -1}
	}
}

// General rule: no argument is changed, and no result shares memory with an argument or another result.
func TestStoreSharesNoMemory(t *testing.T) {
	samples := stores()[:40]
	for _, s := range noStores() {
		samples = append(samples, s)
	}
	for _, s := range samples {
		arg := roomy(s)
		want := slices.Clone(arg[:cap(arg)])
		untouched := func(what string) {
			t.Helper()
			if !slices.Equal(arg[:cap(arg)], want) {
				t.Fatalf("%s changes its argument %v to %v", what, want, arg[:cap(arg)])
			}
		}
		impl.StoreOk(arg)
		impl.StoreFree(arg)
		for _, text := range []string{"a", "ab", "dddd", "", "e"} {
			impl.StoreFind(arg, text)
			one, _, _ := impl.StorePut(arg, text)
			two, _, _ := impl.StorePut(arg, text)
			kept := slices.Clone(two)
			scratch(one)
			if !slices.Equal(two, kept) {
				t.Fatalf("two results of a put of %q share memory", text)
			}
			untouched("a put of " + text)
		}
		for place := 0; place <= impl.SlotMax+1; place++ {
			one, _ := impl.StoreDrop(arg, place)
			two, _ := impl.StoreDrop(arg, place)
			kept := slices.Clone(two)
			scratch(one)
			if !slices.Equal(two, kept) {
				t.Fatalf("two results of a drop of %d share memory", place)
			}
			untouched("a drop")
		}
	}
	one, two := impl.StoreNew(), impl.StoreNew()
	scratch(one)
	if !impl.StoreOk(two) || !impl.StoreOk(impl.StoreNew()) {
		t.Error("new stores share memory")
	}
}
