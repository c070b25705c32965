package tests

import (
	"slices"
	"testing"

	"loop.example/garner/impl"
)

// step is an operation that a walk tries, with names, sizes, blocks and pieces of which some are out of range.
type step struct {
	kind, n        int
	name, to, text string
}

func someStep(next func(int) int) step {
	names := append(append(volNames(), volNames()...), "E")
	name := func() string { return names[next(len(names))] }
	texts := append([]string{"", "e", "dddd", "ad"}, fullPieces...)
	s := step{n: next(8) - 1, name: name(), to: name(), text: texts[next(len(texts))]}
	// Most are writes, and volumes are seldom deleted, so that pools become full.
	switch next(30) {
	case 0:
		s.kind = 3
	case 1, 2:
		s.kind = 2
	case 3, 4, 5:
		s.kind = 1
	}
	return s
}

// do applies a step with the function of the pool that it stands for.
func (s step) do(p impl.Pool) (impl.Pool, bool) {
	switch s.kind {
	case 0:
		return impl.PoolWrite(p, s.name, s.n, s.text)
	case 1:
		return impl.PoolMake(p, s.name, s.n)
	case 2:
		return impl.PoolClone(p, s.name, s.to)
	}
	return impl.PoolGone(p, s.name)
}

// want does to r, which is what is read, what the step must do, and tells whether that is possible.
func (s step) want(r map[string][]string) bool {
	texts, there := r[s.name]
	free := func(name string) bool { return r[name] == nil && name != "E" }
	switch s.kind {
	case 0:
		return there && wantText(r, texts, s.n, s.text)
	case 1:
		if !free(s.name) || s.n < 1 || s.n > impl.BlockMax {
			return false
		}
		r[s.name] = make([]string, s.n)
	case 2:
		if !there || !free(s.to) {
			return false
		}
		r[s.to] = slices.Clone(texts)
	default:
		delete(r, s.name)
		return there
	}
	return true
}

// wantText writes text to a block of texts, unless there were more pieces than slots then.
func wantText(r map[string][]string, texts []string, block int, text string) bool {
	if block < 0 || block >= len(texts) || text == "e" {
		return false
	}
	was := texts[block]
	texts[block] = text
	if piecesRead(r) > impl.SlotMax {
		texts[block] = was
		return false
	}
	return true
}

// P18 to P35: on a long walk each operation does to what is read what it must do to it, or else nothing at all.
func TestPoolWalk(t *testing.T) {
	next := numbers(5)
	p, r := impl.PoolNew(), map[string][]string{}
	full, none := 0, 0
	for range 6000 {
		s := someStep(next)
		want := s.want(r)
		out, ok := s.do(p)
		if ok != want || !sameReads(reads(out), r) || !ok && !samePool(out, p) {
			t.Fatalf("%v in %v: %v %v", s, p, out, ok)
		}
		checkPool(t, "a walk", out)
		if p = out; slotsInUse(p) == impl.SlotMax {
			full++
		}
		if !ok {
			none++
		}
	}
	if full < 50 || none < 500 || none > 5000 {
		t.Errorf("the walk is poor: %d full, %d not possible", full, none)
	}
}

// roomyPool is a copy of p with further slots, volumes and blocks behind the ends, which a function must neither read nor write.
func roomyPool(p impl.Pool) impl.Pool {
	vols := append(slices.Clone(p.Vols), slices.Repeat([]impl.Vol{{Name: "behind"}}, 2*impl.VolMax)...)
	for i := range vols {
		vols[i].Blocks = roomyBlocks(vols[i].Blocks)
	}
	return impl.Pool{Slots: roomy(p.Slots), Vols: vols[:len(p.Vols)]}
}

// wholePool is p with all that lies behind its ends.
func wholePool(p impl.Pool) impl.Pool {
	out := impl.Pool{Slots: p.Slots[:cap(p.Slots)], Vols: slices.Clone(p.Vols[:cap(p.Vols)])}
	for i, v := range out.Vols {
		out.Vols[i].Blocks = v.Blocks[:cap(v.Blocks)]
	}
	return out
}

// scratchPool writes to all the memory of a result, and tells whether volumes of it share some.
func scratchPool(p impl.Pool) bool {
	scratch(p.Slots)
	whole := wholePool(p)
	for i, v := range whole.Vols {
		for j := range v.Blocks {
			v.Blocks[j] = 1000 + i
		}
	}
	shared := false
	for i, v := range whole.Vols {
		shared = shared || slices.ContainsFunc(v.Blocks, func(place int) bool { return place != 1000+i })
	}
	all := p.Vols[:cap(p.Vols)]
	for i := range all {
		all[i] = impl.Vol{Name: "scratch"}
	}
	return shared
}

// someSteps are steps of each kind, most of which are possible in some pool and some in none.
func someSteps() []step {
	var out []step
	for _, name := range append(volNames(), "E") {
		for _, to := range append(volNames(), "") {
			out = append(out, step{kind: 2, name: name, to: to})
		}
		for _, n := range []int{-1, 0, 1, 5, 6, 7} {
			out = append(out, step{kind: 1, name: name, n: n})
			for _, text := range []string{"a", "dddd", "", "e"} {
				out = append(out, step{kind: 0, name: name, n: n, text: text})
			}
		}
		out = append(out, step{kind: 3, name: name})
	}
	return out
}

// General rule: no operation changes its argument, possible or not, and no result shares memory with it, with another result,
// or within itself.
func TestPoolSharesNoMemory(t *testing.T) {
	samples := pools()[:20]
	for _, p := range noPools() {
		if len(p.Vols) < 20 && !slices.ContainsFunc(p.Vols, func(v impl.Vol) bool { return len(v.Blocks) > 20 }) {
			samples = append(samples, p)
		}
	}
	for _, p := range samples {
		arg := roomyPool(p)
		before := poolCopy(wholePool(arg))
		for _, s := range someSteps() {
			one, _ := s.do(arg)
			two, _ := s.do(arg)
			kept := poolCopy(two)
			if scratchPool(one) {
				t.Fatalf("%v in %v: volumes share memory", s, p)
			}
			if !samePool(two, kept) {
				t.Fatalf("%v in %v: two results share memory", s, p)
			}
			if !samePool(wholePool(arg), before) {
				t.Fatalf("%v changes its argument %v to %v", s, p, arg)
			}
		}
	}
	one, two := impl.PoolNew(), impl.PoolNew()
	scratchPool(one)
	if !impl.PoolOk(two) || !impl.PoolOk(impl.PoolNew()) {
		t.Error("new pools share memory")
	}
}

// General rule: what reads a pool does not change it, and does not read what lies behind its ends.
func TestPoolReadersChangeNothing(t *testing.T) {
	samples := pools()
	for _, p := range noPools() {
		samples = append(samples, p)
	}
	for _, p := range samples {
		arg := roomyPool(p)
		before := poolCopy(wholePool(arg))
		if impl.PoolOk(arg) != impl.PoolOk(p) || impl.PoolText(arg) != impl.PoolText(p) || !sameReads(reads(arg), reads(p)) {
			t.Fatalf("%v with room behind its ends", p)
		}
		if !samePool(wholePool(arg), before) {
			t.Fatalf("%v is changed to %v", p, arg)
		}
	}
}
