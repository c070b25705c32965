package tests

import (
	"slices"
	"strconv"
	"testing"

	"loop.example/garner/impl"
)

// write is PoolWrite, which must succeed.
func write(t *testing.T, p impl.Pool, name string, block int, text string) impl.Pool {
	t.Helper()
	out, ok := impl.PoolWrite(p, name, block, text)
	if !ok {
		t.Fatalf("write %s %d %q to %v: %v", name, block, text, p, out)
	}
	checkPool(t, "write "+name, out)
	return out
}

// volAt is the index of a volume, or -1.
func volAt(p impl.Pool, name string) int {
	return slices.IndexFunc(p.Vols, func(v impl.Vol) bool { return v.Name == name })
}

// wantWrite is what the document says of PoolWrite, with StoreDrop and StorePut.
func wantWrite(p impl.Pool, name string, block int, text string) (impl.Pool, bool) {
	i := volAt(p, name)
	if i < 0 || block < 0 || block >= len(p.Vols[i].Blocks) || !impl.TextOk(text) {
		return p, false
	}
	out := poolCopy(p)
	at := &out.Vols[i].Blocks[block]
	if *at != 0 {
		out.Slots, _ = impl.StoreDrop(out.Slots, *at)
	}
	*at = 0
	if text == "" {
		return out, true
	}
	var ok bool
	if out.Slots, *at, ok = impl.StorePut(out.Slots, text); !ok {
		return p, false
	}
	return out, true
}

// writeTexts are pieces that p has, some that it does not have, and the empty one.
func writeTexts(p impl.Pool) []string {
	return append(textsOf(p), freshPiece(p), "", "abcd", "bb", "ad")
}

// eachWrite calls f for many writes to blocks of p.
func eachWrite(p impl.Pool, f func(name string, block int, text string)) {
	for _, v := range p.Vols {
		for block := range v.Blocks {
			for _, text := range writeTexts(p) {
				f(v.Name, block, text)
			}
		}
	}
}

// P21: exactly the block written to is read as the piece; all others are read as before. The slots are those of the document.
func TestPoolWrite(t *testing.T) {
	for _, p := range pools() {
		eachWrite(p, func(name string, block int, text string) {
			want, wantOk := wantWrite(p, name, block, text)
			out, ok := impl.PoolWrite(p, name, block, text)
			checkResult(t, "write "+name+" "+text, out, ok, want, wantOk)
			r := wantReads(p)
			if ok {
				r[name][block] = text
			}
			if !sameReads(reads(out), r) {
				t.Fatalf("write %s %d %q to %v: %v", name, block, text, p, out)
			}
		})
	}
}

// P22: a write of a piece fails exactly if all slots are in use once the block is free, and none of them has the piece.
func TestPoolWriteFailsWithoutRoom(t *testing.T) {
	failed := 0
	for _, p := range pools() {
		eachWrite(p, func(name string, block int, text string) {
			r := wantReads(p)
			r[name][block] = ""
			has := false
			for _, texts := range r {
				has = has || slices.Contains(texts, text)
			}
			want := text == "" || has || piecesRead(r) < impl.SlotMax
			out, ok := impl.PoolWrite(p, name, block, text)
			if ok != want || !ok && !samePool(out, p) {
				t.Fatalf("write %s %d %q to %v: %v %v", name, block, text, p, out, ok)
			}
			if !ok {
				failed++
			}
		})
	}
	if failed < 20 {
		t.Error("too few pools without room:", failed)
	}
}

// P22: without room, a block that holds the last reference to its slot can have any piece; its slot is the only one for it.
func TestPoolWriteOverTheLastReference(t *testing.T) {
	p := fullPool()
	for _, v := range p.Vols {
		for block, place := range v.Blocks {
			if place == 0 {
				continue
			}
			out := write(t, p, v.Name, block, "dddd")
			want := fullPool()
			want.Slots[place-1].Text = "dddd"
			if !samePool(out, want) {
				t.Errorf("write %s %d: %v", v.Name, block, out)
			}
		}
	}
}

// P22: without room, a block that is empty, or whose slot has further references, is left as it was, its reference too.
func TestPoolWriteLosesNothingWithoutRoom(t *testing.T) {
	p := fullPool()
	out, ok := impl.PoolWrite(p, "D", 1, "dddd")
	checkResult(t, "an empty block", out, ok, fullPool(), false)
	// Piece "a" is on two blocks now: to write over one of them leaves its slot in use.
	p = write(t, p, "D", 1, "a")
	for _, c := range []struct {
		name  string
		block int
	}{{"D", 1}, {"B", 0}} {
		out, ok := impl.PoolWrite(p, c.name, c.block, "dddd")
		checkResult(t, "one of two blocks", out, ok, p, false)
		if text, ok := impl.PoolRead(out, c.name, c.block); text != "a" || !ok || out.Slots[0] != (impl.Slot{Text: "a", Uses: 2}) {
			t.Errorf("write %s %d: %v", c.name, c.block, out)
		}
	}
	// The other one is the last now, and there is room.
	p = write(t, p, "B", 0, "")
	p = write(t, p, "D", 1, "dddd")
	if got := impl.PoolText(p); got != "B - b c d ab\nD da dddd ac ddd\n" {
		t.Errorf("%q", got)
	}
}

// P22: without room, pieces that are stored can still be written to any block.
func TestPoolWriteOfAStoredPieceWithoutRoom(t *testing.T) {
	for _, p := range []impl.Pool{fullPool(), greatestPool()} {
		for _, v := range p.Vols {
			for block := range v.Blocks {
				for _, text := range fullPieces {
					out := write(t, p, v.Name, block, text)
					if got, ok := impl.PoolRead(out, v.Name, block); got != text || !ok {
						t.Errorf("write %s %d %q: %v", v.Name, block, text, out)
					}
				}
			}
		}
	}
}

// P21, P22: writes that are not possible return an unchanged pool.
func TestPoolWriteNotPossible(t *testing.T) {
	for _, p := range givenPools() {
		no := func(name string, block int, text string) {
			t.Helper()
			out, ok := impl.PoolWrite(p, name, block, text)
			checkResult(t, "write "+strconv.Quote(name)+" "+strconv.Itoa(block), out, ok, p, false)
		}
		for _, name := range noVolNames() {
			no(name, 0, "a")
			no(name, 0, "")
		}
		for _, name := range volNames() {
			size := 0
			if i := volAt(p, name); i >= 0 {
				size = len(p.Vols[i].Blocks)
			}
			for _, block := range append(noBlockIndexes(), size) {
				no(name, block, "dddd")
				no(name, block, "")
			}
			for _, text := range noPieces() {
				no(name, 0, text)
			}
		}
	}
}

// P23: repeating a write changes nothing that is read; of two writes the last one is read.
func TestPoolWriteTwice(t *testing.T) {
	for _, p := range pools()[:25] {
		eachWrite(p, func(name string, block int, text string) {
			one, ok := impl.PoolWrite(p, name, block, text)
			if !ok {
				return
			}
			if again := write(t, one, name, block, text); !sameReads(reads(again), reads(one)) {
				t.Fatalf("write %s %d %q again to %v: %v", name, block, text, one, again)
			}
			for _, other := range []string{"ad", "", freshPiece(p)} {
				two, ok := impl.PoolWrite(one, name, block, other)
				want := wantReads(one)
				if ok {
					want[name][block] = other
				}
				if !sameReads(reads(two), want) {
					t.Fatalf("write %s %d %q to %v: %v", name, block, other, one, two)
				}
			}
		})
	}
}

// P23: a piece written over itself reads as before; if that was its last reference, its slot is searched for anew.
func TestPoolWriteOverItself(t *testing.T) {
	for _, p := range pools() {
		for name, texts := range wantReads(p) {
			for block, text := range texts {
				if out := write(t, p, name, block, text); !sameReads(reads(out), wantReads(p)) {
					t.Fatalf("write %s %d %q to %v: %v", name, block, text, p, out)
				}
			}
		}
	}
	far := []string{"", "", "", "", "a"}
	out := write(t, poolOf(far, vol("A", 5)), "A", 0, "a")
	if !samePool(out, poolOf([]string{"", "a"}, vol("A", 2))) {
		t.Error("the last reference:", out)
	}
	p := poolOf(far, vol("A", 5, 5))
	if out := write(t, p, "A", 0, "a"); !samePool(out, p) {
		t.Error("not the last reference:", out)
	}
}

// P31: after a write of the empty piece the block is empty, and no slot more than its own is free.
func TestPoolWriteOfTheEmptyPiece(t *testing.T) {
	for _, p := range pools() {
		for _, v := range p.Vols {
			for block, place := range v.Blocks {
				out := write(t, p, v.Name, block, "")
				if text, ok := impl.PoolRead(out, v.Name, block); text != "" || !ok || out.Vols[volAt(out, v.Name)].Blocks[block] != 0 {
					t.Fatalf("%s %d of %v: %v", v.Name, block, p, out)
				}
				want := impl.StoreFree(p.Slots)
				if place != 0 && p.Slots[place-1].Uses == 1 {
					want++
				}
				if got := impl.StoreFree(out.Slots); got != want {
					t.Fatalf("%s %d of %v: %d free, not %d", v.Name, block, p, got, want)
				}
				if place == 0 && !samePool(out, p) {
					t.Fatalf("%s %d of %v was empty: %v", v.Name, block, p, out)
				}
			}
		}
	}
}

// P31: with all slots in use, a block is emptied, and its slot is free for another piece elsewhere.
func TestPoolWriteOfTheEmptyPieceMakesRoom(t *testing.T) {
	p := write(t, fullPool(), "B", 2, "")
	if !samePool(p, poolOf(fullPieces, vol("B", 1, 2, 0, 4, 5), vol("D", 6, 0, 7, 8))) {
		t.Fatal(p)
	}
	p = write(t, p, "D", 1, "dddd")
	if got := impl.PoolText(p); got != "B a b - d ab\nD da dddd ac ddd\n" || p.Slots[2] != (impl.Slot{Text: "dddd", Uses: 1}) {
		t.Errorf("%q: %v", got, p)
	}
}

// P32: one piece on two blocks, of the same volume or of two, has one slot, of which both are a reference.
func TestPoolWriteToTwoBlocks(t *testing.T) {
	empty := poolOf(nil, vol("A", 0, 0, 0, 0, 0, 0), vol("B", 0), vol("D", 0, 0))
	for _, text := range allPieces()[1:] {
		p := empty
		for i, to := range []struct {
			name  string
			block int
		}{{"A", 0}, {"A", 5}, {"B", 0}, {"D", 1}, {"A", 3}} {
			p = write(t, p, to.name, to.block, text)
			place := impl.TextPlace(text)
			if slotsInUse(p) != 1 || p.Slots[place-1] != (impl.Slot{Text: text, Uses: i + 1}) {
				t.Fatalf("%q on %d blocks: %v", text, i+1, p)
			}
		}
	}
}

// P32: in any pool a second block with the same piece takes no further slot.
func TestPoolWriteToASecondBlock(t *testing.T) {
	for _, p := range pools()[:30] {
		eachWrite(p, func(name string, block int, text string) {
			one, ok := impl.PoolWrite(p, name, block, text)
			if !ok || text == "" {
				return
			}
			for _, v := range p.Vols {
				other := len(v.Blocks) - 1
				if v.Name == name && other == block {
					continue
				}
				two := write(t, one, v.Name, other, text)
				at := two.Vols[volAt(two, name)].Blocks[block]
				if two.Vols[volAt(two, v.Name)].Blocks[other] != at || slotsInUse(two) > slotsInUse(one) {
					t.Fatalf("write %s %d %q to %v: %v", v.Name, other, text, one, two)
				}
			}
		})
	}
}
