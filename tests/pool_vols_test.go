package tests

import (
	"math"
	"slices"
	"strconv"
	"testing"

	"loop.example/garner/impl"
)

// create is PoolMake, which must succeed.
func create(t *testing.T, p impl.Pool, name string, size int) impl.Pool {
	t.Helper()
	out, ok := impl.PoolMake(p, name, size)
	if !ok {
		t.Fatalf("make %s %d in %v: %v", name, size, p, out)
	}
	checkPool(t, "make "+name, out)
	return out
}

// clone is PoolClone, which must succeed.
func clone(t *testing.T, p impl.Pool, from, to string) impl.Pool {
	t.Helper()
	out, ok := impl.PoolClone(p, from, to)
	if !ok {
		t.Fatalf("clone %s %s in %v: %v", from, to, p, out)
	}
	checkPool(t, "clone "+from, out)
	return out
}

// gone is PoolGone, which must succeed.
func gone(t *testing.T, p impl.Pool, name string) impl.Pool {
	t.Helper()
	out, ok := impl.PoolGone(p, name)
	if !ok {
		t.Fatalf("gone %s in %v: %v", name, p, out)
	}
	checkPool(t, "gone "+name, out)
	return out
}

// with is p with a further volume, put where its name belongs, and its references counted.
func with(p impl.Pool, v impl.Vol) impl.Pool {
	vols := append(slices.Clone(p.Vols), v)
	slices.SortFunc(vols, func(a, b impl.Vol) int { return int(a.Name[0]) - int(b.Name[0]) })
	return poolOf(textsOf(p), vols...)
}

// without is p without one of its volumes and its references.
func without(p impl.Pool, name string) impl.Pool {
	vols := slices.DeleteFunc(slices.Clone(p.Vols), func(v impl.Vol) bool { return v.Name == name })
	return poolOf(textsOf(p), vols...)
}

func freeName(p impl.Pool, name string) bool {
	return slices.Contains(volNames(), name) && volAt(p, name) < 0
}

// eachClone calls f for each volume of p and each name that is free in it.
func eachClone(p impl.Pool, f func(from, to string)) {
	for _, v := range p.Vols {
		for _, to := range volNames() {
			if freeName(p, to) {
				f(v.Name, to)
			}
		}
	}
}

// P20: there is a new volume of empty blocks, and all else is as it was, if the name is free and the size in range;
// otherwise all is as it was.
func TestPoolMake(t *testing.T) {
	for _, p := range pools() {
		for _, name := range append(volNames(), noVolNames()...) {
			for _, size := range []int{1, 2, 3, 4, 5, 6, 0, 7, -1, 8, 256, 257, math.MinInt, math.MaxInt, 1<<32 + 1} {
				possible := freeName(p, name) && size >= 1 && size <= 6
				want, r := p, wantReads(p)
				if possible {
					want = with(p, vol(name, make([]int, size)...))
					r[name] = make([]string, size)
				}
				out, ok := impl.PoolMake(p, name, size)
				if ok != possible || !samePool(out, want) {
					t.Fatalf("make %.20q %d in %v: %v %v", name, size, p, out, ok)
				}
				if possible && (!sameReads(reads(out), r) || slotsInUse(out) != slotsInUse(p) || !impl.PoolOk(out)) {
					t.Fatalf("make %s %d in %v: %v", name, size, p, out)
				}
			}
		}
	}
}

// P20: four volumes are made, in any order, and then no further one.
func TestPoolMakeOfAllVolumes(t *testing.T) {
	p := impl.PoolNew()
	for i, name := range []string{"C", "A", "D", "B"} {
		p = create(t, p, name, i+1)
		out, ok := impl.PoolMake(p, name, 6)
		checkResult(t, "make it again", out, ok, p, false)
	}
	if got := impl.PoolText(p); got != "A - -\nB - - - -\nC -\nD - - -\n" {
		t.Errorf("%q", got)
	}
	for _, name := range append(volNames(), "E", "") {
		out, ok := impl.PoolMake(p, name, 1)
		checkResult(t, "make a fifth "+name, out, ok, p, false)
	}
}

// P34: two volumes give the same pool in either order.
func TestPoolMakeInEitherOrder(t *testing.T) {
	for _, p := range pools() {
		for _, one := range volNames() {
			for _, two := range volNames() {
				if one == two || !freeName(p, one) || !freeName(p, two) {
					continue
				}
				a := create(t, create(t, p, one, 2), two, 6)
				b := create(t, create(t, p, two, 6), one, 2)
				if !samePool(a, b) {
					t.Fatalf("%s and %s in %v: %v and %v", one, two, p, a, b)
				}
			}
		}
	}
}

// P34: all volumes give the same pool in every order.
func TestPoolMakeInAnyOrder(t *testing.T) {
	want := poolOf(nil, vol("A", 0), vol("B", 0, 0), vol("C", 0, 0, 0), vol("D", 0, 0, 0, 0))
	var check func(p impl.Pool)
	check = func(p impl.Pool) {
		if len(p.Vols) == impl.VolMax && !samePool(p, want) {
			t.Fatal(p)
		}
		for i, name := range volNames() {
			if freeName(p, name) {
				check(create(t, p, name, i+1))
			}
		}
	}
	check(impl.PoolNew())
}

// P24: a clone reads as the original, all others read as before, and as many slots are free;
// it fails if and only if there is no original or the name is not free, and then nothing changes.
func TestPoolClone(t *testing.T) {
	names := append(volNames(), noVolNames()[:20]...)
	for _, p := range pools() {
		for _, from := range names {
			for _, to := range names {
				possible := volAt(p, from) >= 0 && freeName(p, to)
				want := p
				if possible {
					want = with(p, vol(to, p.Vols[volAt(p, from)].Blocks...))
				}
				out, ok := impl.PoolClone(p, from, to)
				if ok != possible || !samePool(out, want) {
					t.Fatalf("clone %q %q in %v: %v %v", from, to, p, out, ok)
				}
				if !possible {
					continue
				}
				r := wantReads(p)
				r[to] = r[from]
				if !sameReads(reads(out), r) || impl.StoreFree(out.Slots) != impl.StoreFree(p.Slots) {
					t.Fatalf("clone %s %s in %v: %v", from, to, p, out)
				}
				checkPool(t, "clone", out)
			}
		}
	}
}

// P24: a clone costs no slot, where there is none, and counts each block of the original.
func TestPoolCloneWithoutRoom(t *testing.T) {
	p := clone(t, fullPool(), "B", "A")
	want := poolOf(fullPieces, vol("A", 1, 2, 3, 4, 5), vol("B", 1, 2, 3, 4, 5), vol("D", 6, 0, 7, 8))
	if !samePool(p, want) || p.Slots[0].Uses != 2 || p.Slots[5].Uses != 1 || impl.StoreFree(p.Slots) != 0 {
		t.Error(p)
	}
	p = poolOf([]string{"", "", "a"}, vol("B", 3, 3, 0, 3, 3, 3))
	for i, to := range []string{"D", "A", "C"} {
		p = clone(t, p, "B", to)
		if p.Slots[2] != (impl.Slot{Text: "a", Uses: 5 * (i + 2)}) || slotsInUse(p) != 1 {
			t.Error(p)
		}
	}
	out, ok := impl.PoolClone(p, "B", "D")
	checkResult(t, "a fifth volume", out, ok, p, false)
}

// P24: a volume is not its own clone, and names that are none are not cloned to or from.
func TestPoolCloneNotPossible(t *testing.T) {
	p := poolOf([]string{"a", "b"}, vol("A", 2, 0, 1), vol("D", 2))
	for _, c := range [][2]string{{"A", "A"}, {"A", "D"}, {"D", "A"}, {"B", "B"}, {"B", "C"}, {"C", "A"}, {"A", ""}, {"", "B"}, {"A", "E"}, {"E", "B"}, {"a", "B"}, {"A", "b"}, {"", ""}} {
		out, ok := impl.PoolClone(p, c[0], c[1])
		checkResult(t, "clone "+c[0]+" "+c[1], out, ok, p, false)
	}
	for _, to := range noVolNames() {
		out, ok := impl.PoolClone(p, "A", to)
		checkResult(t, "clone to no name", out, ok, p, false)
		out, ok = impl.PoolClone(p, to, "B")
		checkResult(t, "clone from no name", out, ok, p, false)
	}
}

// P25: writing to the clone does not change the original, and vice versa.
func TestPoolCloneIsApart(t *testing.T) {
	for _, p := range pools() {
		r := wantReads(p)
		eachClone(p, func(from, to string) {
			both := clone(t, p, from, to)
			for block := range r[from] {
				for _, text := range []string{"ad", freshPiece(p), ""} {
					if out, ok := impl.PoolWrite(both, to, block, text); ok || text == "" {
						want := wantReads(both)
						want[to][block] = text
						if !sameReads(reads(out), want) || !slices.Equal(reads(out)[from], r[from]) {
							t.Fatalf("write %s %d %q, a clone of %s, in %v: %v", to, block, text, from, p, out)
						}
					}
					if out, ok := impl.PoolWrite(both, from, block, text); ok || text == "" {
						want := wantReads(both)
						want[from][block] = text
						if !sameReads(reads(out), want) || !slices.Equal(reads(out)[to], r[from]) {
							t.Fatalf("write %s %d %q, cloned as %s, in %v: %v", from, block, text, to, p, out)
						}
					}
				}
			}
		})
	}
}

// P25: a clone is written to and deleted, step by step.
func TestPoolCloneIsWritten(t *testing.T) {
	p := poolOf([]string{"", "a"}, vol("B", 2, 0))
	p = clone(t, p, "B", "C")
	p = write(t, p, "C", 0, "b")
	p = write(t, p, "B", 1, "c")
	if got := impl.PoolText(p); got != "B a c\nC b -\n" || p.Slots[1].Uses != 1 {
		t.Errorf("%q %v", got, p)
	}
	p = gone(t, p, "B")
	if got := impl.PoolText(p); got != "C b -\n" || slotsInUse(p) != 1 {
		t.Errorf("%q %v", got, p)
	}
}

// P33: a clone of a clone reads as the original, also after the clone is written to or deleted.
func TestPoolCloneOfAClone(t *testing.T) {
	for _, p := range pools() {
		eachClone(p, func(from, to string) {
			one := clone(t, p, from, to)
			eachClone(one, func(via, last string) {
				if via != to {
					return
				}
				two := clone(t, one, via, last)
				want := wantReads(p)[from]
				if got := reads(two); !slices.Equal(got[last], want) || !slices.Equal(got[via], want) || !slices.Equal(got[from], want) {
					t.Fatalf("clone %s %s %s in %v: %v", from, via, last, p, two)
				}
				two = gone(t, write(t, two, via, 0, ""), via)
				if got := reads(two); !slices.Equal(got[last], want) || !slices.Equal(got[from], want) {
					t.Fatalf("clone %s %s %s in %v: %v", from, via, last, p, two)
				}
			})
		})
	}
}

// P26: the volume is absent, all others read as before, and no fewer slots are free; it fails if and only if there was none.
func TestPoolGone(t *testing.T) {
	for _, p := range pools() {
		for _, name := range append(volNames(), noVolNames()...) {
			out, ok := impl.PoolGone(p, name)
			if volAt(p, name) < 0 {
				checkResult(t, "gone "+strconv.Quote(name), out, ok, p, false)
				continue
			}
			checkResult(t, "gone "+name, out, ok, without(p, name), true)
			r := wantReads(p)
			delete(r, name)
			if !sameReads(reads(out), r) || impl.StoreFree(out.Slots) < impl.StoreFree(p.Slots) {
				t.Fatalf("gone %s in %v: %v", name, p, out)
			}
			again, ok := impl.PoolGone(out, name)
			checkResult(t, "gone again "+name, again, ok, out, false)
		}
	}
}

// P26: the slots that only the deleted volume refers to become free, those of other volumes do not.
func TestPoolGoneOfAGivenPool(t *testing.T) {
	p := poolOf([]string{"a", "b", "c", "d"}, vol("A", 1, 1, 2), vol("C", 2, 0, 3, 3), vol("D", 4))
	out := gone(t, p, "C")
	if !samePool(out, poolOf([]string{"a", "b", "", "d"}, vol("A", 1, 1, 2), vol("D", 4))) || impl.PoolText(out) != "A a a b\nD d\n" {
		t.Error(out)
	}
}

// P27: a clone that is deleted leaves the pool as it was, slot by slot.
func TestPoolCloneThenGone(t *testing.T) {
	for _, p := range pools() {
		eachClone(p, func(from, to string) {
			if back := gone(t, clone(t, p, from, to), to); !samePool(back, p) {
				t.Fatalf("clone %s %s in %v, and gone: %v", from, to, p, back)
			}
		})
	}
}

// P30: with all volumes deleted, in either direction, a pool is as new.
func TestPoolGoneOfAllVolumes(t *testing.T) {
	for _, p := range pools() {
		up, down := p, p
		for _, v := range p.Vols {
			up = gone(t, up, v.Name)
		}
		for _, v := range slices.Backward(p.Vols) {
			down = gone(t, down, v.Name)
		}
		if !samePool(up, impl.PoolNew()) || !samePool(down, impl.PoolNew()) {
			t.Fatalf("%v: %v and %v", p, up, down)
		}
	}
}

// P35: a volume that is deleted and made anew has empty blocks; all others read as before.
func TestPoolGoneThenMake(t *testing.T) {
	for _, p := range pools() {
		for _, v := range p.Vols {
			size := len(v.Blocks)
			out := create(t, gone(t, p, v.Name), v.Name, size)
			r := wantReads(p)
			r[v.Name] = make([]string, size)
			if !sameReads(reads(out), r) {
				t.Fatalf("%s of %v: %v", v.Name, p, out)
			}
			for block, place := range out.Vols[volAt(out, v.Name)].Blocks {
				if place != 0 {
					t.Fatalf("%s %d of %v: %d", v.Name, block, p, place)
				}
			}
		}
	}
}
