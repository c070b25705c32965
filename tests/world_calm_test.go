package tests

import (
	"math"
	"slices"
	"testing"

	"loop.example/garner/impl"
)

// wantCalm is what quiet rounds must make of a valid run.
func wantCalm(w impl.World, rounds int) impl.World {
	for range rounds {
		w = worldCopy(w)
		w.Nets = nil
		w.Nodes[0].Up, w.Nodes[1].Up = true, true
		w = wantEvent(w, impl.Event{Kind: impl.EvJoin})
		for range 3 {
			w = wantEvent(w, bring(0))
		}
	}
	return w
}

// checkCalm performs quiet rounds, which must not change the run that they are given, and returns what they make of it.
func checkCalm(t *testing.T, what string, w impl.World, rounds int) impl.World {
	t.Helper()
	before := worldCopy(w)
	out, want := impl.WorldCalm(w, rounds), wantCalm(w, rounds)
	if !sameWorld(out, want) || !impl.WorldOk(out) || !sameWorld(w, before) {
		t.Fatalf("%s: %d rounds on\n%v give\n%v, not\n%v", what, rounds, before, out, want)
	}
	return out
}

// noRounds are numbers of rounds that are out of range.
func noRounds() []int {
	return []int{-1, -2, -5, math.MinInt, impl.CalmMax + 1, impl.CalmMax + 2, 256, 257, 1 << 32, 1<<32 + 1, math.MaxInt}
}

// P77, P78: quiet rounds on runs of each form, with nodes that run or not, with and without messages in transit, and without space for one.
func TestWorldCalm(t *testing.T) {
	for lead := 1; lead <= 2; lead++ {
		for form, w := range worldsOf(lead) {
			for i := range 12 {
				w := worldCopy(w)
				w.Nodes[0].Up, w.Nodes[1].Up = i&1 != 0, i&2 != 0
				switch i / 4 {
				case 1:
					w.Nets = eachKind(w)
				case 2:
					w.Nets = slices.Repeat(eachKind(w)[:4], 3)
				}
				if out := checkCalm(t, form, w, 0); !sameWorld(out, w) {
					t.Fatalf("%s: no round: %v", form, out)
				}
				ops := w.Nodes[lead-1].Ops
				want := worldOf(lead, true, nodeOf(led, 7, ops), nodeOf(follower, 7, ops), ops)
				for rounds := 1; rounds <= impl.CalmMax; rounds++ {
					if out := checkCalm(t, form, w, rounds); !sameWorld(out, want) {
						t.Fatalf("%s: %d rounds: %v, not %v", form, rounds, out, want)
					}
				}
			}
		}
	}
}

// P77: with too many rounds, or fewer than none, there is only the zero value.
func TestWorldCalmOfNoRounds(t *testing.T) {
	for lead := 1; lead <= 2; lead++ {
		for form, w := range worldsOf(lead) {
			for _, rounds := range noRounds() {
				if out := impl.WorldCalm(w, rounds); !zeroWorld(out) {
					t.Errorf("%s: %d rounds: %v", form, rounds, out)
				}
			}
		}
	}
}

// P71, P77: after one quiet round both nodes run, Both is true, and both have the same operations, all acknowledged: those of the leader.
func TestComesToIt(t *testing.T) {
	eachWorld(3, func(w impl.World) {
		out := checkCalm(t, "a run", w, 1)
		ops := w.Nodes[w.Lead-1].Ops
		want := worldOf(w.Lead, true, nodeOf(led, w.Term, ops), nodeOf(follower, w.Term, ops), ops)
		if !sameWorld(out, want) {
			t.Fatalf("%v comes to %v, not %v", w, out, want)
		}
	})
}

// P78, P79: after a quiet round further ones change nothing, and a number of rounds can be split into two parts.
func TestWorldCalmInTwoParts(t *testing.T) {
	eachWorld(23, func(w impl.World) {
		for rounds := range impl.CalmMax + 1 {
			whole := checkCalm(t, "a run", w, rounds)
			for part := range rounds + 1 {
				if out := impl.WorldCalm(impl.WorldCalm(w, part), rounds-part); !sameWorld(out, whole) {
					t.Fatalf("%v: %d of %d rounds: %v, not %v", w, part, rounds, out, whole)
				}
			}
			if rounds > 0 && !sameWorld(whole, impl.WorldCalm(w, 1)) {
				t.Fatalf("%v: %d rounds: %v", w, rounds, whole)
			}
		}
	})
}

// checkLeads checks that a node leads alone, reads all that was acknowledged, and accepts operations, which are acknowledged at once.
func checkLeads(t *testing.T, w impl.World, id int, done []impl.Op, next func(int) int) {
	t.Helper()
	n := w.Nodes[id-1]
	if w.Lead != id || !n.Leads || !n.Alone || n.Term != w.Term || !slices.Equal(n.Ops, done) || !slices.Equal(w.Done, done) {
		t.Fatalf("%v: node %d does not lead with %v", w, id, done)
	}
	if want, _ := poolAfter(poolOf(nil), done); !sameReads(reads(impl.NodePool(n)), reads(want)) {
		t.Fatalf("%v reads %v, not %v", n, reads(impl.NodePool(n)), reads(want))
	}
	if len(done) == impl.LogMax {
		return
	}
	o := someAccepted(n, next)
	if out := do(w, impl.Event{Kind: impl.EvAsk, A: id, Op: o}); !slices.Equal(out.Done, and(done, o)) || !slices.Equal(out.Nodes[id-1].Ops, out.Done) {
		t.Fatalf("%v: acknowledged %v after %v", w, out.Done, o)
	}
}

// P91: after a quiet round, a stop of the leader, and EvTurn, the other node leads, and nothing that was acknowledged is lost.
func TestTakenOverAfterCalm(t *testing.T) {
	next := numbers(91)
	eachWorld(7, func(w impl.World) {
		out := do(impl.WorldCalm(w, 1), impl.Event{Kind: impl.EvFall, A: w.Lead}, impl.Event{Kind: impl.EvTurn})
		checkLeads(t, out, 3-w.Lead, w.Nodes[w.Lead-1].Ops, next)
	})
}

// P92: after a quiet round, a stop of the other node, and EvAlone, the leader goes on alone.
func TestAloneAfterCalm(t *testing.T) {
	next := numbers(92)
	eachWorld(7, func(w impl.World) {
		calm := impl.WorldCalm(w, 1)
		down := do(calm, impl.Event{Kind: impl.EvFall, A: 3 - w.Lead})
		if lead := down.Nodes[w.Lead-1]; len(lead.Ops) < impl.LogMax {
			waits := do(down, impl.Event{Kind: impl.EvAsk, A: w.Lead, Op: someAccepted(lead, next)})
			if !slices.Equal(waits.Done, calm.Done) || len(waits.Nodes[w.Lead-1].Ops) != len(calm.Done)+1 {
				t.Fatalf("acknowledged without the other node: %v", waits)
			}
		}
		checkLeads(t, do(down, impl.Event{Kind: impl.EvAlone}), w.Lead, calm.Done, next)
	})
}
