package tests

import (
	"slices"
	"strconv"
	"strings"
	"testing"

	"loop.example/garner/impl"
)

func volNames() []string {
	return []string{"A", "B", "C", "D"}
}

// noVolNames are names that no volume has: other letters, small ones, none, several, bytes around and outside ASCII.
func noVolNames() []string {
	return []string{
		"", "E", "F", "Z", "@", "a", "b", "c", "d", "e", "0", "1", "-", " ", "\n", "\x00", "\xc1", "\u00c4", "\u0410", "\uff21",
		"AB", "AA", "BA", "ABCD", "Aa", "aA", " A", "A ", "A\n", "A\x00", "\x00A", "A1", strings.Repeat("A", 257), strings.Repeat("D", 100000),
	}
}

// noBlocks are lists that are not the blocks of a volume, though most of them have blocks that are.
func noBlocks() map[string][]int {
	out := map[string][]int{
		"nil blocks":          nil,
		"no blocks":           {},
		"no blocks, but room": make([]int, 0, impl.BlockMax),
		"seven blocks":        {1, 2, 3, 4, 5, 6, 7},
		"seven empty blocks":  make([]int, 7),
		"seven alike":         {2, 2, 2, 2, 2, 2, 2},
		"twelve blocks":       make([]int, 12),
		"257 blocks":          make([]int, 257),
		"many blocks":         make([]int, 1<<16+1),
	}
	for _, place := range noSlots() {
		if place != 0 {
			out["one block "+strconv.Itoa(place)] = []int{place}
			out["the first block "+strconv.Itoa(place)] = []int{place, 1, 0}
			out["the last block "+strconv.Itoa(place)] = []int{1, 0, 2, 3, 8, place}
			out["a block between empty ones "+strconv.Itoa(place)] = []int{0, place, 0}
		}
	}
	return out
}

// blockLists are all lists of one to three blocks, and some of each greater number up to the greatest.
func blockLists() [][]int {
	var out [][]int
	lists := [][]int{nil}
	for range 3 {
		var longer [][]int
		for _, list := range lists {
			for place := range impl.SlotMax + 1 {
				longer = append(longer, append(slices.Clone(list), place))
			}
		}
		out = append(out, longer...)
		lists = longer
	}
	next := numbers(7)
	for size := 4; size <= impl.BlockMax; size++ {
		out = append(out, make([]int, size), slices.Repeat([]int{impl.SlotMax}, size), slices.Repeat([]int{1}, size))
		for range 100 {
			list := make([]int, size)
			for i := range list {
				list[i] = next(impl.SlotMax + 1)
			}
			out = append(out, list)
		}
	}
	return out
}

// vols are valid volumes; each name and each number of blocks is among them.
func vols() []impl.Vol {
	var out []impl.Vol
	for i, blocks := range blockLists() {
		names := volNames()
		out = append(out, impl.Vol{Name: names[i%len(names)], Blocks: blocks})
	}
	return out
}

// noVols are invalid volumes.
func noVols() map[string]impl.Vol {
	out := map[string]impl.Vol{}
	for what, blocks := range noBlocks() {
		for _, name := range volNames() {
			out[name+", "+what] = impl.Vol{Name: name, Blocks: blocks}
		}
	}
	for _, name := range noVolNames() {
		out["the name "+name+", one block"] = impl.Vol{Name: name, Blocks: []int{1}}
		out["the name "+name+", six blocks"] = impl.Vol{Name: name, Blocks: []int{1, 0, 8, 1, 0, 2}}
		out["the name "+name+", empty blocks"] = impl.Vol{Name: name, Blocks: []int{0, 0}}
		out["the name "+name+", no blocks"] = impl.Vol{Name: name}
	}
	return out
}

// usesOf is VolUses of every slot, from the first one on.
func usesOf(v impl.Vol) []int {
	uses := make([]int, impl.SlotMax)
	for i := range uses {
		uses[i] = impl.VolUses(v, i+1)
	}
	return uses
}

func emptyBlocks(v impl.Vol) int {
	n := 0
	for _, place := range v.Blocks {
		if place == 0 {
			n++
		}
	}
	return n
}

func TestLimitsOfVolumes(t *testing.T) {
	if impl.VolMax != 4 || impl.BlockMax != 6 {
		t.Error(impl.VolMax, impl.BlockMax)
	}
}

// P14: uses counted by hand.
func TestVolUsesOfGivenVolumes(t *testing.T) {
	for _, c := range []struct {
		blocks []int
		want   []int
	}{
		{[]int{0}, []int{0, 0, 0, 0, 0, 0, 0, 0}},
		{[]int{1}, []int{1, 0, 0, 0, 0, 0, 0, 0}},
		{[]int{8}, []int{0, 0, 0, 0, 0, 0, 0, 1}},
		{[]int{2, 0, 2}, []int{0, 2, 0, 0, 0, 0, 0, 0}},
		{[]int{0, 0, 0, 0, 0, 0}, []int{0, 0, 0, 0, 0, 0, 0, 0}},
		{[]int{5, 5, 5, 5, 5, 5}, []int{0, 0, 0, 0, 6, 0, 0, 0}},
		{[]int{1, 8, 1, 8, 0, 1}, []int{3, 0, 0, 0, 0, 0, 0, 2}},
		{[]int{6, 5, 4, 3, 2, 1}, []int{1, 1, 1, 1, 1, 1, 0, 0}},
		{[]int{0, 0, 0, 0, 0, 7}, []int{0, 0, 0, 0, 0, 0, 1, 0}},
		{[]int{7, 0, 0, 0, 0, 0}, []int{0, 0, 0, 0, 0, 0, 1, 0}},
	} {
		for _, name := range volNames() {
			if got := usesOf(impl.Vol{Name: name, Blocks: c.blocks}); !slices.Equal(got, c.want) {
				t.Errorf("%s %v: %v, not %v", name, c.blocks, got, c.want)
			}
		}
	}
}

// P14: the uses of all slots and the empty blocks are all blocks.
func TestVolUsesAddUp(t *testing.T) {
	for _, v := range vols() {
		sum := emptyBlocks(v)
		for _, n := range usesOf(v) {
			sum += n
		}
		if sum != len(v.Blocks) {
			t.Fatalf("%v: %v", v, usesOf(v))
		}
	}
}

// P14: of a slot that there is not nothing is used; 0, which empty blocks have, is not a slot.
func TestVolUsesOfNoSlot(t *testing.T) {
	for _, v := range vols() {
		for _, place := range noSlots() {
			if got := impl.VolUses(v, place); got != 0 {
				t.Fatalf("%v, slot %d: %d", v, place, got)
			}
		}
	}
}

// P14: an invalid volume uses nothing, though blocks of it refer to the slot asked for.
func TestVolUsesOfNoVolume(t *testing.T) {
	for what, v := range noVols() {
		for _, place := range append(noSlots(), 1, 2, 3, 4, 5, 6, 7, 8) {
			if got := impl.VolUses(v, place); got != 0 {
				t.Fatalf("%.40q, slot %d: %d", what, place, got)
			}
		}
	}
}

// P15: what is a volume, and what is not.
func TestVolOk(t *testing.T) {
	for _, v := range vols() {
		if !impl.VolOk(v) {
			t.Fatalf("%v is a volume", v)
		}
	}
	for what, v := range noVols() {
		if impl.VolOk(v) {
			t.Errorf("%.40q: no volume", what)
		}
	}
	if impl.VolOk(impl.Vol{}) {
		t.Error("the zero value is no volume")
	}
}

// P15: one block is enough and six are not too many, under each name.
func TestVolOkByNumberOfBlocks(t *testing.T) {
	for _, name := range volNames() {
		for size := range 20 {
			want := size >= 1 && size <= 6
			for place := range impl.SlotMax + 1 {
				v := impl.Vol{Name: name, Blocks: slices.Repeat([]int{place}, size)}
				if impl.VolOk(v) != want {
					t.Errorf("%v: %v", v, !want)
				}
			}
		}
	}
}

// P15: any block may refer to any slot or to none, but not to a slot that there is not.
func TestVolOkOfChangedBlocks(t *testing.T) {
	for _, v := range vols() {
		for i := range v.Blocks {
			other := impl.Vol{Name: v.Name, Blocks: slices.Clone(v.Blocks)}
			for place := range impl.SlotMax + 1 {
				other.Blocks[i] = place
				if !impl.VolOk(other) {
					t.Fatalf("%v is a volume", other)
				}
			}
			for _, place := range noSlots() {
				other.Blocks[i] = place
				if place != 0 && impl.VolOk(other) {
					t.Fatalf("%v is no volume", other)
				}
			}
		}
	}
}

// P15: a volume is invalid without blocks and with another name.
func TestVolOkOfChangedVolumes(t *testing.T) {
	for _, v := range vols() {
		if impl.VolOk(impl.Vol{Name: v.Name}) || impl.VolOk(impl.Vol{Name: v.Name, Blocks: v.Blocks[:0]}) {
			t.Fatalf("%v without blocks", v)
		}
		for _, name := range volNames() {
			if !impl.VolOk(impl.Vol{Name: name, Blocks: v.Blocks}) {
				t.Fatalf("%v with the name %s", v, name)
			}
		}
		for _, name := range noVolNames() {
			if impl.VolOk(impl.Vol{Name: name, Blocks: v.Blocks}) {
				t.Fatalf("%v with the name %.20q", v, name)
			}
		}
	}
}

// P15: of all names of one byte exactly four are names of volumes.
func TestVolOkOfAllShortNames(t *testing.T) {
	for i := range 256 {
		name := string([]byte{byte(i)})
		want := slices.Contains(volNames(), name)
		if impl.VolOk(impl.Vol{Name: name, Blocks: []int{0}}) != want {
			t.Errorf("%q: %v", name, !want)
		}
	}
}

// P16: lines written out by hand; slots 4 and 8 are free.
func TestVolTextOfGivenVolumes(t *testing.T) {
	s := storeOf(
		impl.Slot{Text: "ddd", Uses: 1}, impl.Slot{Text: "a", Uses: 3}, impl.Slot{Text: "abcd", Uses: usesMax}, impl.Slot{},
		impl.Slot{Text: "bb", Uses: 1}, impl.Slot{Text: "c", Uses: 2}, impl.Slot{Text: "dcba", Uses: 1},
	)
	for _, c := range []struct {
		name   string
		blocks []int
		want   string
	}{
		{"A", []int{0}, "A -"},
		{"B", []int{2}, "B a"},
		{"C", []int{4}, "C -"},
		{"D", []int{8}, "D -"},
		{"D", []int{1}, "D ddd"},
		{"A", []int{2, 0, 2}, "A a - a"},
		{"A", []int{0, 0, 0, 0, 0, 0}, "A - - - - - -"},
		{"B", []int{3, 3, 3, 3, 3, 3}, "B abcd abcd abcd abcd abcd abcd"},
		{"C", []int{1, 2, 3, 5, 6, 7}, "C ddd a abcd bb c dcba"},
		{"C", []int{7, 6, 5, 3, 2, 1}, "C dcba c bb abcd a ddd"},
		{"D", []int{4, 2, 8, 0, 2, 4}, "D - a - - a -"},
		{"D", []int{0, 6}, "D - c"},
		{"D", []int{6, 0}, "D c -"},
	} {
		if got := impl.VolText(impl.Vol{Name: c.name, Blocks: c.blocks}, s); got != c.want {
			t.Errorf("%s %v: %q, not %q", c.name, c.blocks, got, c.want)
		}
	}
}

// P16: a line has the name first and a word for each block, which is its piece or a hyphen.
func TestVolTextOfVolumes(t *testing.T) {
	for _, s := range stores()[:30] {
		for _, v := range vols() {
			words := []string{v.Name}
			for _, place := range v.Blocks {
				word := "-"
				if place > 0 && s[place-1].Text != "" {
					word = s[place-1].Text
				}
				words = append(words, word)
			}
			if got, want := impl.VolText(v, s), strings.Join(words, " "); got != want {
				t.Fatalf("%v with %v: %q, not %q", v, s, got, want)
			}
		}
	}
}

// P16: with a new store every block is printed as a hyphen, whatever slot it refers to.
func TestVolTextWithANewStore(t *testing.T) {
	for _, v := range vols() {
		want := v.Name + strings.Repeat(" -", len(v.Blocks))
		if got := impl.VolText(v, impl.StoreNew()); got != want {
			t.Fatalf("%v: %q, not %q", v, got, want)
		}
	}
}

// P16: an invalid volume has no line.
func TestVolTextOfNoVolume(t *testing.T) {
	for what, v := range noVols() {
		for _, s := range stores()[:8] {
			if got := impl.VolText(v, s); got != "" {
				t.Fatalf("%.40q: %q", what, got)
			}
		}
	}
}

// P16: there is no line with what is not a slot store, even for a volume of empty blocks; nor with neither.
func TestVolTextWithNoStore(t *testing.T) {
	lists := append(blockLists()[:9], []int{0, 0}, []int{1, 2, 3, 4, 5, 6}, []int{0, 0, 0, 0, 0, 0}, []int{9}, []int{-1}, nil)
	for what, s := range noStores() {
		for _, blocks := range lists {
			for _, name := range []string{"A", "D", "E", ""} {
				if got := impl.VolText(impl.Vol{Name: name, Blocks: blocks}, s); got != "" {
					t.Errorf("%s, %s %v: %q", what, name, blocks, got)
				}
			}
		}
	}
}

// P17: a further block is one more use of its slot and of no other; a further empty block is none of any.
func TestVolUsesWithAFurtherBlock(t *testing.T) {
	for _, v := range vols() {
		if len(v.Blocks) == impl.BlockMax {
			continue
		}
		for place := range impl.SlotMax + 1 {
			want := usesOf(v)
			if place != 0 {
				want[place-1]++
			}
			longer := impl.Vol{Name: v.Name, Blocks: append(slices.Clone(v.Blocks), place)}
			if got := usesOf(longer); !slices.Equal(got, want) {
				t.Fatalf("%v and a block of slot %d: %v, not %v", v, place, got, want)
			}
		}
	}
}

// P17: a block after the sixth one, or one of a slot that there is not, leaves no volume that could use anything.
func TestVolUsesWithABlockTooMany(t *testing.T) {
	none := make([]int, impl.SlotMax)
	for _, v := range vols() {
		places := []int{-1, impl.SlotMax + 1}
		if len(v.Blocks) == impl.BlockMax {
			places = []int{0, 1, impl.SlotMax}
		}
		for _, place := range places {
			longer := impl.Vol{Name: v.Name, Blocks: append(slices.Clone(v.Blocks), place)}
			if got := usesOf(longer); !slices.Equal(got, none) {
				t.Fatalf("%v: %v", longer, got)
			}
		}
	}
}

// roomyBlocks is a copy of blocks with further ones behind its end, which a function must neither read nor write.
func roomyBlocks(blocks []int) []int {
	long := append(slices.Clone(blocks), slices.Repeat([]int{3}, 2*impl.BlockMax)...)
	return long[:len(blocks)]
}

// General rule: no argument is changed, and what lies behind the end of a slice does not count.
func TestVolChangesNoArgument(t *testing.T) {
	samples := vols()
	for _, v := range noVols() {
		if len(v.Blocks) < 20 {
			samples = append(samples, v)
		}
	}
	slots := roomy(fullStore())
	wantSlots := slices.Clone(slots[:cap(slots)])
	for _, v := range samples {
		arg := impl.Vol{Name: v.Name, Blocks: roomyBlocks(v.Blocks)}
		all := arg.Blocks[:cap(arg.Blocks)]
		want := slices.Clone(all)
		if impl.VolOk(arg) != impl.VolOk(v) || impl.VolText(arg, slots) != impl.VolText(v, fullStore()) || !slices.Equal(usesOf(arg), usesOf(v)) {
			t.Fatalf("%v with room behind its blocks", v)
		}
		if !slices.Equal(all, want) || !slices.Equal(slots[:cap(slots)], wantSlots) {
			t.Fatalf("%v: changed to %v, slots to %v", v, all, slots)
		}
	}
	for what, s := range noStores() {
		arg := roomy(s)
		want := slices.Clone(arg[:cap(arg)])
		impl.VolText(impl.Vol{Name: "A", Blocks: []int{1, 2, 0, 8}}, arg)
		if !slices.Equal(arg[:cap(arg)], want) {
			t.Fatalf("%s: changed to %v", what, arg)
		}
	}
}
