package tests

import (
	"slices"
	"testing"

	"loop.example/garner/impl"
)

// roomyWorld is a copy of w with further nodes, messages and operations behind the ends, which a function must neither read nor write.
func roomyWorld(w impl.World) impl.World {
	n, m := impl.Node{Up: true, Term: 99, Ops: opsOf("make D 6")}, joinMsg(1, 99, opsOf("make D 6"))
	w = worldCopy(w)
	w.Nodes = append(w.Nodes, n, n, n)[:len(w.Nodes)]
	w.Nets = append(w.Nets, slices.Repeat([]impl.Msg{m}, 2*impl.NetMax)...)[:len(w.Nets)]
	w.Done = roomyOps(w.Done)
	for i := range w.Nodes {
		w.Nodes[i].Ops = roomyOps(w.Nodes[i].Ops)
	}
	for i := range w.Nets {
		w.Nets[i].Ops = roomyOps(w.Nets[i].Ops)
	}
	return w
}

// wholeWorld is w with all the memory of its slices, in memory of its own.
func wholeWorld(w impl.World) impl.World {
	w.Nodes, w.Nets, w.Done = w.Nodes[:cap(w.Nodes)], w.Nets[:cap(w.Nets)], w.Done[:cap(w.Done)]
	w = worldCopy(w)
	for i, n := range w.Nodes {
		w.Nodes[i].Ops = slices.Clone(n.Ops[:cap(n.Ops)])
	}
	for i, m := range w.Nets {
		w.Nets[i].Ops = slices.Clone(m.Ops[:cap(m.Ops)])
	}
	return w
}

// memory knows all places of slices that it has been shown; a place stays in use while it is known.
type memory map[any]bool

// placesOf adds each place of a slice, up to its capacity, and tells whether all of them are new.
func placesOf[T any](known memory, s []T) bool {
	s = s[:cap(s)]
	for i := range s {
		if known[&s[i]] {
			return false
		}
		known[&s[i]] = true
	}
	return true
}

// add adds all places of a run, and tells whether all of them are new.
func (known memory) add(w impl.World) bool {
	ok := placesOf(known, w.Nodes) && placesOf(known, w.Nets) && placesOf(known, w.Done)
	for _, n := range w.Nodes {
		ok = ok && placesOf(known, n.Ops)
	}
	for _, m := range w.Nets {
		ok = ok && placesOf(known, m.Ops)
	}
	return ok
}

// memoryEvents are events of all kinds, which change each part of a run or nothing.
func memoryEvents(w impl.World) []impl.Event {
	out := []impl.Event{{}, {Kind: 10}, ask(1, "make D 1"), ask(2, "make D 1"), ask(1, "gone D"), {Kind: impl.EvAsk, A: 3}, {Kind: impl.EvFall, A: 1},
		{Kind: impl.EvRise, A: 2}, {Kind: impl.EvTurn}, {Kind: impl.EvAlone}, {Kind: impl.EvJoin}}
	for at := range len(w.Nets) + 1 {
		out = append(out, bring(at), impl.Event{Kind: impl.EvLose, A: at}, impl.Event{Kind: impl.EvTwice, A: at})
	}
	return out
}

// checkWorldMemory checks that no function changes a run, valid or not, nor what lies behind its ends, and that no result shares memory
// with it, with another result, or with another part of itself.
func checkWorldMemory(t *testing.T, w impl.World) {
	t.Helper()
	arg := roomyWorld(w)
	before, known := wholeWorld(arg), memory{}
	if !known.add(arg) {
		t.Fatal("the argument itself shares memory")
	}
	for _, e := range memoryEvents(w) {
		want := impl.WorldDo(worldCopy(w), e)
		if out := impl.WorldDo(arg, e); !sameWorld(out, want) || !known.add(out) {
			t.Fatalf("%v on %v shares memory: %v", e, w, out)
		}
	}
	for rounds := -1; rounds <= 3; rounds++ {
		want := impl.WorldCalm(worldCopy(w), rounds)
		if out := impl.WorldCalm(arg, rounds); !sameWorld(out, want) || !known.add(out) {
			t.Fatalf("%d rounds on %v share memory: %v", rounds, w, out)
		}
	}
	if impl.WorldOk(arg) != impl.WorldOk(w) || !sameWorld(wholeWorld(arg), before) {
		t.Fatalf("%v is changed", w)
	}
}

// General rule: see checkWorldMemory; of runs of each form, with messages of each kind, also of one that was sent twice.
func TestWorldSharesNoMemory(t *testing.T) {
	for lead := 1; lead <= 2; lead++ {
		for _, w := range worldsOf(lead) {
			w.Nets = eachKind(w)
			checkWorldMemory(t, w)
			w.Nets = slices.Repeat(w.Nets[1:3], 3)
			checkWorldMemory(t, w)
			w.Nets = slices.Repeat(w.Nets, 2)
			checkWorldMemory(t, w)
		}
	}
	eachWorld(97, func(w impl.World) { checkWorldMemory(t, w) })
}

// General rule: likewise of runs that are invalid.
func TestInvalidRunsAreNotChanged(t *testing.T) {
	for _, f := range flaws() {
		w := worldCopy(worldsOf(1)[f.form])
		lead, other := sidesOf(w)
		if f.change(&w, lead, other); len(w.Nets) < 20 && len(w.Done) < 30 {
			checkWorldMemory(t, w)
		}
	}
}

// General rule: WorldPlay does not change the events, nor what lies behind their end, and no two of its results, or of WorldNew, share memory.
func TestWorldPlaySharesNoMemory(t *testing.T) {
	known := memory{}
	for range 3 {
		if w := impl.WorldNew(); !known.add(w) {
			t.Fatal("WorldNew shares memory")
		}
	}
	for i, p := range plays() {
		for _, count := range []int{0, i % impl.PlayMax, impl.PlayMax, impl.PlayMax + 1} {
			events := append(slices.Clone(p.events), ask(1, "make D 6"), impl.Event{Kind: impl.EvJoin})
			before := slices.Clone(events)
			w, _ := impl.WorldPlay(events[:count])
			if !known.add(w) {
				t.Fatalf("%v: %v shares memory", events[:count], w)
			}
			if !slices.Equal(events, before) {
				t.Fatalf("%v is changed to %v", before, events)
			}
		}
	}
}
