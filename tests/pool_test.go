package tests

import (
	"math"
	"slices"
	"strconv"
	"strings"
	"testing"

	"loop.example/garner/impl"
)

func vol(name string, blocks ...int) impl.Vol {
	return impl.Vol{Name: name, Blocks: blocks}
}

// poolOf has the pieces in its slots, from the first one on, as far as blocks of the volumes refer to them, counted one by one.
func poolOf(texts []string, vols ...impl.Vol) impl.Pool {
	p := impl.Pool{Slots: make([]impl.Slot, impl.SlotMax), Vols: vols}
	for _, v := range vols {
		for _, place := range v.Blocks {
			if place != 0 {
				p.Slots[place-1].Text = texts[place-1]
				p.Slots[place-1].Uses++
			}
		}
	}
	return p
}

// poolCopy shares no memory with p.
func poolCopy(p impl.Pool) impl.Pool {
	out := impl.Pool{Slots: slices.Clone(p.Slots), Vols: slices.Clone(p.Vols)}
	for i, v := range p.Vols {
		out.Vols[i].Blocks = slices.Clone(v.Blocks)
	}
	return out
}

func textsOf(p impl.Pool) []string {
	var texts []string
	for _, x := range p.Slots {
		texts = append(texts, x.Text)
	}
	return texts
}

func sameVol(a, b impl.Vol) bool {
	return a.Name == b.Name && slices.Equal(a.Blocks, b.Blocks)
}

func samePool(a, b impl.Pool) bool {
	return slices.Equal(a.Slots, b.Slots) && slices.EqualFunc(a.Vols, b.Vols, sameVol)
}

func zeroPool(p impl.Pool) bool {
	return len(p.Slots) == 0 && len(p.Vols) == 0
}

// fullPool has eight pieces, each on one block: there is no room for another one.
func fullPool() impl.Pool {
	return poolOf(fullPieces, vol("B", 1, 2, 3, 4, 5), vol("D", 6, 0, 7, 8))
}

// greatestPool has as many volumes and blocks as a pool may have, and no free slot.
func greatestPool() impl.Pool {
	return poolOf(fullPieces, vol("A", 1, 2, 3, 4, 5, 6), vol("B", 7, 8, 1, 1, 1, 1), vol("C", 2, 2, 3, 3, 4, 4), vol("D", 8, 8, 8, 8, 8, 8))
}

// givenPools are valid pools with what the document names as a limit.
func givenPools() []impl.Pool {
	return []impl.Pool{
		poolOf(nil),
		poolOf(nil, vol("C", 0)),
		poolOf(nil, vol("A", 0), vol("B", 0, 0), vol("C", 0, 0, 0), vol("D", 0, 0, 0, 0, 0, 0)),
		poolOf([]string{"abc"}, vol("D", 1)),
		poolOf([]string{"a", "b"}, vol("A", 2, 0, 1), vol("D", 2)),
		// The same piece in all blocks that there may be, far from where it would be put.
		poolOf([]string{"", "", "", "", "", "", "", "a"}, vol("A", 8, 8, 8, 8, 8, 8), vol("B", 8, 8, 8, 8, 8, 8), vol("C", 8, 8, 8, 8, 8, 8), vol("D", 8, 8, 8, 8, 8, 8)),
		fullPool(),
		greatestPool(),
		// Full, with one slot of a single reference and one of many.
		poolOf(fullPieces, vol("A", 1, 1, 2, 2, 3, 3), vol("B", 4, 4, 5, 5, 6, 6), vol("C", 7, 7, 8, 1, 1, 1)),
		// One slot is free.
		poolOf(fullPieces, vol("A", 1, 2, 3, 4, 5, 6), vol("C", 8, 0)),
	}
}

// somePool is a valid pool made of numbers; its pieces lie in any slots, not only in those that the search for them visits.
func somePool(next func(int) int) impl.Pool {
	pieces := allPieces()[1:]
	var texts []string
	for len(texts) < impl.SlotMax {
		text := pieces[next(len(pieces))]
		if !slices.Contains(texts, text) {
			texts = append(texts, text)
		}
	}
	lowest := next(2)
	var vols []impl.Vol
	for _, name := range volNames() {
		if next(4) == 0 {
			continue
		}
		v := vol(name)
		for range 1 + next(impl.BlockMax) {
			v.Blocks = append(v.Blocks, lowest+next(impl.SlotMax+1-lowest))
		}
		vols = append(vols, v)
	}
	return poolOf(texts, vols...)
}

// pools are valid pools; none of them is made by the package.
func pools() []impl.Pool {
	out := givenPools()
	next := numbers(11)
	for range 40 {
		out = append(out, somePool(next))
	}
	return out
}

// noPools are invalid pools.
func noPools() map[string]impl.Pool {
	two := []string{"a", "b"}
	with := func(change func(p *impl.Pool)) impl.Pool {
		p := poolOf(two, vol("A", 1, 2), vol("C", 0, 1))
		change(&p)
		return p
	}
	out := map[string]impl.Pool{
		"the zero value":          {},
		"volumes without slots":   with(func(p *impl.Pool) { p.Slots = nil }),
		"volumes out of order":    with(func(p *impl.Pool) { p.Vols[0], p.Vols[1] = p.Vols[1], p.Vols[0] }),
		"empty ones out of order": poolOf(nil, vol("B", 0), vol("A", 0)),
		"the last out of order":   poolOf(two, vol("A", 1), vol("B", 2), vol("D", 0), vol("C", 1)),
		"a volume twice":          poolOf(two, vol("A", 1, 2), vol("A", 1, 2)),
		"a name twice":            poolOf(two, vol("A", 1), vol("D", 2), vol("D", 0)),
		"a name again":            poolOf(two, vol("A", 1), vol("D", 2), vol("A", 0)),
		"five volumes":            poolOf(nil, vol("A", 0), vol("B", 0), vol("C", 0), vol("D", 0), vol("E", 0)),
		"five, one of them twice": poolOf(nil, vol("A", 0), vol("B", 0), vol("C", 0), vol("D", 0), vol("D", 0)),
		"many volumes":            poolOf(nil, slices.Repeat([]impl.Vol{vol("A", 0)}, 257)...),
		"the zero volume":         poolOf(nil, impl.Vol{}),
		"volumes gone":            with(func(p *impl.Pool) { p.Vols = nil }),
		"a volume gone":           with(func(p *impl.Pool) { p.Vols = p.Vols[:1] }),
		"a volume come":           with(func(p *impl.Pool) { p.Vols = append(p.Vols, vol("D", 2)) }),
		"a block emptied":         with(func(p *impl.Pool) { p.Vols[0].Blocks[0] = 0 }),
		"a block filled":          with(func(p *impl.Pool) { p.Vols[1].Blocks[0] = 2 }),
		"a block moved":           with(func(p *impl.Pool) { p.Vols[0].Blocks[1] = 1 }),
		"a block of a free slot":  with(func(p *impl.Pool) { p.Vols[1].Blocks[0] = 5 }),
		"counts exchanged":        with(func(p *impl.Pool) { p.Slots[0].Uses, p.Slots[1].Uses = 1, 2 }),
		"a count of 99":           with(func(p *impl.Pool) { p.Slots[1].Uses = usesMax }),
		"slots moved":             with(func(p *impl.Pool) { p.Slots = append([]impl.Slot{{}}, p.Slots[:7]...) }),
		"a slot without blocks":   with(func(p *impl.Pool) { p.Slots[7] = impl.Slot{Text: "d", Uses: 1} }),
	}
	for what, s := range noStores() {
		out[what+", no volumes"] = impl.Pool{Slots: s}
		out[what+", volumes"] = impl.Pool{Slots: s, Vols: []impl.Vol{vol("A", 0, 0), vol("D", 0)}}
		out[what+", a block"] = impl.Pool{Slots: s, Vols: []impl.Vol{vol("A", 1)}}
	}
	for what, v := range noVols() {
		out[what+", alone"] = impl.Pool{Slots: impl.StoreNew(), Vols: []impl.Vol{v}}
	}
	for _, v := range []impl.Vol{vol("B"), vol("B", 0, 0, 0, 0, 0, 0, 0), vol("B", 9), vol("B", -1), vol("", 0), vol("b", 0), vol("AA", 0)} {
		out["between others, "+v.Name+" of "+strconv.Itoa(len(v.Blocks))] = impl.Pool{Slots: impl.StoreNew(), Vols: []impl.Vol{vol("A", 0), v, vol("D", 0)}}
	}
	return out
}

// noBlockIndexes are indexes that no block of any volume has.
func noBlockIndexes() []int {
	return []int{-1, -2, -6, math.MinInt, 6, 7, 12, 256, 1 << 32, math.MaxInt}
}

// reads is what is read of each volume, block by block.
func reads(p impl.Pool) map[string][]string {
	out := map[string][]string{}
	for _, name := range volNames() {
		for block := range impl.BlockMax {
			if text, ok := impl.PoolRead(p, name, block); ok {
				out[name] = append(out[name], text)
			}
		}
	}
	return out
}

// wantReads is what reads must be, told from the slots and the blocks alone.
func wantReads(p impl.Pool) map[string][]string {
	out := map[string][]string{}
	for _, v := range p.Vols {
		for _, place := range v.Blocks {
			text := ""
			if place != 0 {
				text = p.Slots[place-1].Text
			}
			out[v.Name] = append(out[v.Name], text)
		}
	}
	return out
}

func sameReads(a, b map[string][]string) bool {
	for _, name := range volNames() {
		if !slices.Equal(a[name], b[name]) {
			return false
		}
	}
	return true
}

// piecesRead is how many different pieces are read; empty blocks have none.
func piecesRead(r map[string][]string) int {
	seen := map[string]bool{}
	for _, texts := range r {
		for _, text := range texts {
			seen[text] = true
		}
	}
	delete(seen, "")
	return len(seen)
}

func slotsInUse(p impl.Pool) int {
	return impl.SlotMax - impl.StoreFree(p.Slots)
}

// P18, P19: a pool is valid, has as many slots in use as pieces, and counts for each slot its uses.
func checkPool(t *testing.T, what string, p impl.Pool) {
	t.Helper()
	if !impl.PoolOk(p) {
		t.Fatalf("%s: invalid: %v", what, p)
	}
	if got, want := slotsInUse(p), piecesRead(reads(p)); got != want {
		t.Fatalf("%s: %d slots for %d pieces: %v", what, got, want, p)
	}
	for i, x := range p.Slots {
		uses := 0
		for _, v := range p.Vols {
			uses += impl.VolUses(v, i+1)
		}
		if x.Uses != uses {
			t.Fatalf("%s: slot %d: %d, not %d: %v", what, i+1, x.Uses, uses, p)
		}
	}
}

// checkResult compares the pool and the last result of an operation with those that it must have.
func checkResult(t *testing.T, what string, got impl.Pool, ok bool, want impl.Pool, wantOk bool) {
	t.Helper()
	if ok != wantOk || !samePool(got, want) {
		t.Fatalf("%s: %v %v, not %v %v", what, got, ok, want, wantOk)
	}
	checkPool(t, what, got)
}

// P18, P19: what is a pool.
func TestPoolOk(t *testing.T) {
	for _, p := range pools() {
		checkPool(t, "a pool", p)
	}
	for _, slots := range [][]impl.Slot{impl.StoreNew(), make([]impl.Slot, impl.SlotMax, 100)} {
		if !impl.PoolOk(impl.Pool{Slots: slots}) || !impl.PoolOk(impl.Pool{Slots: slots, Vols: []impl.Vol{}}) {
			t.Error("a pool without volumes")
		}
	}
}

// P19: what is no pool.
func TestPoolOkOfNoPool(t *testing.T) {
	for what, p := range noPools() {
		if impl.PoolOk(p) {
			t.Errorf("%.40q: no pool", what)
		}
	}
}

// P19: each set of names is that of a pool in ascending order and in no other.
func TestPoolOkOfAllOrders(t *testing.T) {
	var check func(vols []impl.Vol)
	check = func(vols []impl.Vol) {
		want := true
		for i := 1; i < len(vols); i++ {
			want = want && vols[i-1].Name < vols[i].Name
		}
		if got := impl.PoolOk(poolOf(nil, vols...)); got != want {
			t.Fatalf("%v: %v", vols, got)
		}
		if len(vols) <= impl.VolMax {
			for _, name := range volNames() {
				check(append(slices.Clone(vols), vol(name, 0)))
			}
		}
	}
	check(nil)
}

// P19: with one more or less of any count a pool is invalid, and with any other count too.
func TestPoolOkOfChangedCounts(t *testing.T) {
	for _, p := range pools() {
		for i, x := range p.Slots {
			text := x.Text
			if text == "" {
				text = freshPiece(p)
			}
			for uses := -1; uses <= usesMax+1; uses++ {
				other := poolCopy(p)
				other.Slots[i] = impl.Slot{Text: text, Uses: uses}
				if uses == 0 {
					other.Slots[i].Text = ""
				}
				if got := impl.PoolOk(other); got != (uses == x.Uses) {
					t.Fatalf("%v with count %d of slot %d: %v", p, uses, i+1, got)
				}
			}
		}
	}
}

// P19: a pool is invalid with any block of it referring to another slot, or to none.
func TestPoolOkOfChangedBlocks(t *testing.T) {
	for _, p := range pools() {
		for i, v := range p.Vols {
			for j, was := range v.Blocks {
				for place := -1; place <= impl.SlotMax+1; place++ {
					other := poolCopy(p)
					other.Vols[i].Blocks[j] = place
					if got := impl.PoolOk(other); got != (place == was) {
						t.Fatalf("%v with block %d of %s of slot %d: %v", p, j, v.Name, place, got)
					}
				}
			}
		}
	}
}

// freshPiece is a piece that no slot of p stores.
func freshPiece(p impl.Pool) string {
	for _, text := range []string{"dddd", "dddc", "cccc", "cccd", "dcdc", "cdcd", "ccdd", "ddcc", "dccd"} {
		if !slices.Contains(textsOf(p), text) {
			return text
		}
	}
	return ""
}

// P28: exactly the existing blocks are read, each as the piece of its slot, or as empty.
func TestPoolRead(t *testing.T) {
	for _, p := range pools() {
		want := wantReads(p)
		for _, name := range append(volNames(), noVolNames()...) {
			for _, block := range append(noBlockIndexes(), 0, 1, 2, 3, 4, 5) {
				text, ok := impl.PoolRead(p, name, block)
				is := block >= 0 && block < len(want[name])
				if ok != is || is && text != want[name][block] || !is && text != "" {
					t.Fatalf("block %d of %.20q of %v: %q %v", block, name, p, text, ok)
				}
			}
		}
	}
}

// P28: blocks read out by hand.
func TestPoolReadOfAGivenPool(t *testing.T) {
	p := poolOf([]string{"a", "", "abcd", "", "", "", "", "dd"}, vol("B", 8, 0, 1), vol("C", 3))
	for _, c := range []struct {
		name  string
		block int
		text  string
		ok    bool
	}{
		{"B", 0, "dd", true}, {"B", 1, "", true}, {"B", 2, "a", true}, {"B", 3, "", false}, {"B", -1, "", false},
		{"C", 0, "abcd", true}, {"C", 1, "", false}, {"C", -1, "", false}, {"C", math.MinInt, "", false},
		{"A", 0, "", false}, {"D", 0, "", false}, {"", 0, "", false}, {"b", 0, "", false}, {"BC", 0, "", false},
	} {
		if text, ok := impl.PoolRead(p, c.name, c.block); text != c.text || ok != c.ok {
			t.Errorf("block %d of %q: %q %v", c.block, c.name, text, ok)
		}
	}
}

// P28: VolText of each volume is its name and what is read of its blocks.
func TestVolTextAgreesWithPoolRead(t *testing.T) {
	for _, p := range pools() {
		r := reads(p)
		for _, v := range p.Vols {
			words := []string{v.Name}
			for _, text := range r[v.Name] {
				if text == "" {
					text = "-"
				}
				words = append(words, text)
			}
			if got, want := impl.VolText(v, p.Slots), strings.Join(words, " "); got != want {
				t.Fatalf("%v: %q, not %q", p, got, want)
			}
		}
	}
}

// P29: texts written out by hand.
func TestPoolTextOfGivenPools(t *testing.T) {
	for _, c := range []struct {
		p    impl.Pool
		want string
	}{
		{poolOf(nil), ""},
		{poolOf(nil, vol("C", 0)), "C -\n"},
		{poolOf([]string{"abc"}, vol("B", 0, 1)), "B - abc\n"},
		{poolOf([]string{"a", "b"}, vol("A", 2, 0, 1), vol("D", 2)), "A b - a\nD b\n"},
		{fullPool(), "B a b c d ab\nD da - ac ddd\n"},
		{greatestPool(), "A a b c d ab da\nB ac ddd a a a a\nC b b c c d d\nD ddd ddd ddd ddd ddd ddd\n"},
	} {
		if got := impl.PoolText(c.p); got != c.want {
			t.Errorf("%v: %q, not %q", c.p, got, c.want)
		}
	}
}

// P29: a line for each volume, which is VolText.
func TestPoolTextOfPools(t *testing.T) {
	for _, p := range pools() {
		want := ""
		for _, v := range p.Vols {
			want += impl.VolText(v, p.Slots) + "\n"
		}
		if got := impl.PoolText(p); got != want {
			t.Fatalf("%v: %q, not %q", p, got, want)
		}
	}
}

// P29: a new pool is valid, has free slots, no volumes and no text.
func TestPoolNew(t *testing.T) {
	p := impl.PoolNew()
	checkResult(t, "a new pool", p, true, impl.Pool{Slots: impl.StoreNew()}, true)
	if impl.PoolText(p) != "" || impl.StoreFree(p.Slots) != impl.SlotMax || len(p.Vols) != 0 || len(reads(p)) != 0 {
		t.Error(p)
	}
}

// P19 to P29: of an invalid pool nothing is read or printed, and every operation returns the zero value,
// also one that is not possible.
func TestInvalidPools(t *testing.T) {
	for what, p := range noPools() {
		if got := impl.PoolText(p); got != "" {
			t.Errorf("%.40q: text %q", what, got)
		}
		zero := func(did string, out impl.Pool, ok bool) {
			t.Helper()
			if ok || !zeroPool(out) {
				t.Errorf("%.40q: %s: %v %v", what, did, out, ok)
			}
		}
		for _, name := range []string{"A", "B", "C", "D", "E", ""} {
			for _, size := range []int{1, 6, 0, 7} {
				out, ok := impl.PoolMake(p, name, size)
				zero("make "+name, out, ok)
			}
			for _, block := range []int{0, 1, -1, 6} {
				if text, ok := impl.PoolRead(p, name, block); ok || text != "" {
					t.Errorf("%.40q: read %s: %q %v", what, name, text, ok)
				}
				for _, text := range []string{"a", "b", "dddd", "", "e"} {
					out, ok := impl.PoolWrite(p, name, block, text)
					zero("write "+name, out, ok)
				}
			}
			for _, to := range []string{"A", "D", ""} {
				out, ok := impl.PoolClone(p, name, to)
				zero("clone "+name, out, ok)
			}
			out, ok := impl.PoolGone(p, name)
			zero("gone "+name, out, ok)
		}
	}
}
