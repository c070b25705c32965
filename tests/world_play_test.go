package tests

import (
	"slices"
	"sync"
	"testing"

	"loop.example/garner/impl"
)

// played is a run from WorldNew on: its events, and the runs before the first one and after each of them.
type played struct {
	style
	events []impl.Event
	worlds []impl.World
}

// style tells how often each kind of event happens in a run, from EvAsk to EvJoin.
type style struct {
	name  string
	often [9]int
}

func styles() []style {
	return []style{
		{"quiet", [9]int{8, 16, 0, 0, 0, 1, 0, 0, 3}},
		{"mixed", [9]int{8, 12, 2, 2, 1, 3, 1, 1, 4}},
		{"asking", [9]int{26, 8, 0, 0, 0, 1, 0, 0, 1}},
		{"lossy", [9]int{8, 10, 6, 1, 1, 3, 1, 0, 5}},
		{"repeating", [9]int{6, 14, 0, 10, 0, 1, 1, 1, 4}},
		{"turning", [9]int{6, 18, 0, 1, 1, 4, 4, 0, 6}},
		{"alone", [9]int{6, 18, 0, 1, 1, 4, 1, 4, 6}},
		{"falling", [9]int{6, 10, 1, 1, 4, 6, 2, 1, 5}},
		{"unbrought", [9]int{16, 0, 2, 2, 1, 3, 3, 3, 4}},
	}
}

// someEvent is an event that may be possible in a run, of a kind that its style picks.
func someEvent(w impl.World, often [9]int, next func(int) int) impl.Event {
	total := 0
	for _, n := range often {
		total += n
	}
	pick, kind := next(total), 1
	for pick >= often[kind-1] {
		pick, kind = pick-often[kind-1], kind+1
	}
	switch kind {
	case impl.EvAsk:
		return someAsk(w, next)
	case impl.EvBring, impl.EvLose, impl.EvTwice:
		// Most messages are brought in their order, but not all.
		at := 0
		if next(3) == 0 {
			at = next(len(w.Nets)+3) - 1
		}
		return impl.Event{Kind: kind, A: at}
	case impl.EvFall, impl.EvRise:
		return impl.Event{Kind: kind, A: 1 + next(2)}
	}
	return impl.Event{Kind: kind}
}

// someAsk asks for an operation, mostly the leader and mostly for one that is possible there.
func someAsk(w impl.World, next func(int) int) impl.Event {
	id := w.Lead
	if next(3) == 0 {
		id = 3 - id
	}
	p := impl.NodePool(w.Nodes[id-1])
	ops := append(someOps(p), impl.Op{})
	o := ops[next(len(ops))]
	for range next(8) {
		if _, ok := impl.OpDo(p, o); ok {
			break
		}
		o = ops[next(len(ops))]
	}
	return impl.Event{Kind: impl.EvAsk, A: id, Op: o}
}

// plays are runs of PlayMax events, of each style.
var plays = sync.OnceValue(func() []played {
	next := numbers(22)
	var out []played
	for _, s := range styles() {
		for range 50 {
			p := played{style: s, worlds: []impl.World{impl.WorldNew()}}
			for i := range impl.PlayMax {
				e := someEvent(p.worlds[i], s.often, next)
				p.events, p.worlds = append(p.events, e), append(p.worlds, impl.WorldDo(p.worlds[i], e))
			}
			out = append(out, p)
		}
	}
	return out
})

// eachWorld gives each run after some events from WorldNew on, every so many of them.
func eachWorld(every int, f func(w impl.World)) {
	for i, p := range plays() {
		for k := i % every; k < len(p.worlds); k += every {
			f(p.worlds[k])
		}
	}
}

// begins tells whether first is a prefix of ops.
func begins(ops, first []impl.Op) bool {
	for i, o := range first {
		if i >= len(ops) || ops[i] != o {
			return false
		}
	}
	return true
}

// do applies events to a run, one after the other.
func do(w impl.World, events ...impl.Event) impl.World {
	for _, e := range events {
		w = impl.WorldDo(w, e)
	}
	return w
}

// P67, P86, P94: after each event of a run, it is what the event must make of it; all that is read of the runs is not poor.
func TestWorldWalk(t *testing.T) {
	seen := map[string]int{}
	for _, p := range plays() {
		for i, e := range p.events {
			before, after := p.worlds[i], p.worlds[i+1]
			checkDo(t, p.name, before, e, wantEvent(before, e))
			lead, other := sidesOf(after)
			for what, is := range map[string]bool{
				"acknowledged while both have it": len(after.Done) > len(before.Done) && after.Both,
				"together":                        after.Both && !before.Both,
				"taken over by the other node":    after.Term > before.Term && after.Lead != before.Lead,
				"taken over by the leader":        after.Term > before.Term && after.Lead == before.Lead,
				"a previous leader":               other.Leads,
				"a previous leader has others":    other.Leads && !begins(lead.Ops, other.Ops),
				"a full net":                      len(after.Nets) == impl.NetMax,
				"a full log":                      len(lead.Ops) == impl.LogMax,
				"a later term than 3":             after.Term > 3,
				"more than is acknowledged":       len(lead.Ops) > len(after.Done),
			} {
				if is {
					seen[what]++
				}
			}
		}
	}
	for what, count := range seen {
		if count < 50 {
			t.Errorf("%s: only %d times", what, count)
		}
	}
	if t.Log(seen); len(seen) < 10 {
		t.Error("the runs are poor:", seen)
	}
}

// P67, P70: acknowledged operations stay acknowledged, in their order, up to the end, and terms never decrease.
func TestToldStays(t *testing.T) {
	for _, p := range plays() {
		end := p.worlds[len(p.worlds)-1]
		for i, w := range p.worlds {
			if !begins(end.Done, w.Done) {
				t.Fatalf("%v, later %v", w.Done, end.Done)
			}
			if i == 0 {
				continue
			}
			was := p.worlds[i-1]
			if !begins(w.Done, was.Done) || w.Term < was.Term || w.Nodes[0].Term < was.Nodes[0].Term || w.Nodes[1].Term < was.Nodes[1].Term {
				t.Fatalf("%v makes of %v: %v", p.events[i-1], was, w)
			}
		}
	}
}

// P69, P73, P74: the leader has all acknowledged operations, and no others if it is alone; so has the other node if Both is true.
func TestNeverLost(t *testing.T) {
	eachWorld(1, func(w impl.World) {
		lead, other := sidesOf(w)
		if !begins(lead.Ops, w.Done) || lead.Alone && len(lead.Ops) > len(w.Done) {
			t.Fatalf("acknowledged: %v, but of the leader: %v", w.Done, lead)
		}
		if w.Both && (!begins(other.Ops, w.Done) || !begins(lead.Ops, other.Ops) || other.Leads || other.Term != w.Term) {
			t.Fatalf("acknowledged: %v, but of the other node: %v, leader: %v", w.Done, other, lead)
		}
	})
}

// P72: exactly the recorded node leads the current term; the other one leads an earlier term, or none, and is not alone.
func TestOneLeader(t *testing.T) {
	eachWorld(1, func(w impl.World) {
		lead, other := sidesOf(w)
		if !lead.Leads || lead.Term != w.Term || lead.Alone == w.Both || other.Alone || other.Leads && other.Term >= w.Term {
			t.Fatalf("term %d, leader %d: %v", w.Term, w.Lead, w.Nodes)
		}
	})
}

// stepOf is an operation as a step, which tells what must be read then.
func stepOf(o impl.Op) step {
	kinds := map[int]int{impl.OpWrite: 0, impl.OpMake: 1, impl.OpClone: 2, impl.OpGone: 3}
	return step{kind: kinds[o.Kind], n: o.N, name: o.Name, to: o.To, text: o.Text}
}

// P71, P93: the operations of each node, and the acknowledged ones, are possible in order, and what is read is what was last written.
func TestReadAsLastWritten(t *testing.T) {
	eachWorld(17, func(w impl.World) {
		for _, ops := range [][]impl.Op{w.Nodes[0].Ops, w.Nodes[1].Ops, w.Done} {
			r := map[string][]string{}
			for i, o := range ops {
				if !stepOf(o).want(r) {
					t.Fatalf("operation %d is not possible: %v", i, ops)
				}
			}
			p := impl.NodePool(impl.Node{Ops: ops})
			checkPool(t, "a run", p)
			if !sameReads(reads(p), r) {
				t.Fatalf("%v: %v is read, not %v", ops, reads(p), r)
			}
		}
	})
}

// P81, P89, P90: what is in transit, and what the other node has, agrees with the operations of the leader.
func TestMessagesAgree(t *testing.T) {
	current := map[int]int{}
	eachWorld(1, func(w impl.World) {
		lead, other := sidesOf(w)
		if len(w.Nets) > impl.NetMax || other.Term == w.Term && !begins(lead.Ops, other.Ops) {
			t.Fatal(w)
		}
		for _, m := range w.Nets {
			if m.Term > w.Term || m.To != 1 && m.To != 2 {
				t.Fatal(m)
			}
			if m.Term < w.Term {
				continue
			}
			current[m.Kind]++
			ok := m.To == w.Lead && other.Term == w.Term && m.N <= len(other.Ops)
			switch m.Kind {
			case impl.MsgCopy:
				ok = m.To != w.Lead && m.N <= len(lead.Ops) && m.Op == lead.Ops[m.N-1]
			case impl.MsgJoin:
				ok = m.To != w.Lead && begins(lead.Ops, m.Ops) && m.N == len(m.Ops)
			}
			if !ok {
				t.Fatalf("%v in %v", m, w)
			}
		}
	})
	if len(current) != 4 {
		t.Error("the runs are poor:", current)
	}
}

// P90: after equally many operations, the pools of the leader and of a node of its term are the same.
func TestPoolsAgree(t *testing.T) {
	eachWorld(11, func(w impl.World) {
		lead, other := sidesOf(w)
		if other.Term != w.Term {
			return
		}
		for n := range len(other.Ops) + 1 {
			one, two := impl.NodePool(impl.Node{Ops: lead.Ops[:n]}), impl.NodePool(impl.Node{Ops: other.Ops[:n]})
			if !samePool(one, two) {
				t.Fatalf("after %d operations: %v and %v", n, one, two)
			}
		}
	})
}

// P68: WorldPlay applies all events, from WorldNew on.
func TestWorldPlay(t *testing.T) {
	for i, p := range plays() {
		for _, k := range []int{0, 1, 2, 3 + i%50, impl.PlayMax - 1, impl.PlayMax} {
			events := slices.Clone(p.events[:k])
			if w, ok := impl.WorldPlay(events); !ok || !sameWorld(w, p.worlds[k]) || !slices.Equal(events, p.events[:k]) {
				t.Fatalf("%v: %v %v, not %v", p.events[:k], w, ok, p.worlds[k])
			}
		}
	}
}

// P68: of no events, also of none that are possible, and of too many.
func TestWorldPlayAtTheLimits(t *testing.T) {
	ask := impl.Event{Kind: impl.EvAsk, A: 1, Op: makeOp("A", 1)}
	for _, events := range [][]impl.Event{nil, {}, {{}}, {{Kind: 10}, {Kind: impl.EvTurn}, {Kind: impl.EvAlone}, {Kind: impl.EvBring}}, make([]impl.Event, 60)} {
		if w, ok := impl.WorldPlay(events); !ok || !sameWorld(w, impl.WorldNew()) {
			t.Errorf("%v: %v %v", events, w, ok)
		}
	}
	for _, count := range []int{1, 59, 60} {
		events := append(make([]impl.Event, count-1), ask)
		if w, ok := impl.WorldPlay(events); !ok || len(w.Done) != 1 {
			t.Errorf("%d events: %v %v", count, w, ok)
		}
	}
	for _, count := range []int{61, 62, 120, 256 + 60, 1<<16 + 1, 1000000} {
		for _, events := range [][]impl.Event{make([]impl.Event, count), slices.Repeat([]impl.Event{ask}, count)} {
			if w, ok := impl.WorldPlay(events); ok || !zeroWorld(w) {
				t.Errorf("%d events: %v %v", count, w, ok)
			}
		}
	}
}

// P75: EvTurn lets the other node lead the next term alone, if Both is true and it runs; otherwise nothing changes.
func TestTurn(t *testing.T) {
	turned, not := 0, 0
	eachWorld(3, func(w impl.World) {
		out := do(w, impl.Event{Kind: impl.EvTurn})
		if _, other := sidesOf(w); !w.Both || !other.Up {
			if not++; !sameWorld(out, w) {
				t.Fatalf("%v turns to %v", w, out)
			}
			return
		}
		turned++
		want := worldCopy(w)
		_, next := sidesOf(want)
		next.Term, next.Leads, next.Alone = w.Term+1, true, true
		want.Term, want.Lead, want.Both, want.Done = w.Term+1, 3-w.Lead, false, next.Ops
		if !sameWorld(out, want) {
			t.Fatalf("%v turns to %v, not %v", w, out, want)
		}
	})
	if turned < 100 || not < 100 {
		t.Error("too few of a kind:", turned, not)
	}
}

// P76: after EvTurn, nothing that the previous leader accepted or accepts, and no message of it, is acknowledged.
func TestPreviousLeader(t *testing.T) {
	accepted, next := 0, numbers(76)
	eachWorld(2, func(w impl.World) {
		if _, other := sidesOf(w); !w.Both || !other.Up {
			return
		}
		out := do(w, impl.Event{Kind: impl.EvTurn}, impl.Event{Kind: impl.EvRise, A: w.Lead})
		want := out.Done
		for _, o := range someLogOps(impl.NodePool(out.Nodes[w.Lead-1]), 3, next) {
			out = do(out, impl.Event{Kind: impl.EvAsk, A: w.Lead, Op: o})
		}
		if len(out.Nodes[w.Lead-1].Ops) > len(w.Nodes[w.Lead-1].Ops) {
			accepted++
		}
		for range 3 * impl.NetMax {
			out = do(out, bring(next(1+len(out.Nets)/2)))
		}
		if lead, _ := sidesOf(out); len(out.Nets) > 0 || !slices.Equal(out.Done, want) || !slices.Equal(lead.Ops, want) || out.Lead == w.Lead {
			t.Fatalf("%v: acknowledged %v, not %v", w, out.Done, want)
		}
	})
	if accepted < 100 {
		t.Error("too few are accepted:", accepted)
	}
}

// someAccepted is an operation that is possible after those of a node, which must have space for it.
func someAccepted(n impl.Node, next func(int) int) impl.Op {
	return someLogOps(impl.NodePool(n), 1, next)[0]
}

// P80: an operation that the leader accepts is acknowledged at once exactly if it is alone, and otherwise once its message and
// the answer are delivered.
func TestAcknowledged(t *testing.T) {
	alone, together, next := 0, 0, numbers(80)
	eachWorld(3, func(w impl.World) {
		lead, other := sidesOf(w)
		if !lead.Up || len(lead.Ops) == impl.LogMax {
			return
		}
		o := someAccepted(*lead, next)
		out := do(w, impl.Event{Kind: impl.EvAsk, A: w.Lead, Op: o})
		want := and(lead.Ops, o)
		if got := slices.Equal(out.Done, want); got != lead.Alone || !got && !slices.Equal(out.Done, w.Done) {
			t.Fatalf("%v: acknowledged %v after %v", w, out.Done, o)
		}
		if lead.Alone {
			alone++
			return
		}
		if !other.Up || len(other.Ops) < len(lead.Ops) || len(w.Nets) == impl.NetMax {
			return
		}
		together++
		last := len(w.Nets)
		if out = do(out, bring(last)); !slices.Equal(out.Done, w.Done) {
			t.Fatalf("%v: acknowledged %v without an answer", w, out.Done)
		}
		if out = do(out, bring(last)); !slices.Equal(out.Done, want) || !sameMsgs(out.Nets, w.Nets) {
			t.Fatalf("%v: acknowledged %v after an answer", w, out.Done)
		}
	})
	if alone < 100 || together < 50 {
		t.Error("too few of a kind:", alone, together)
	}
}

// P82: without deliveries node 2 has nothing, node 1 leads term 1, and all that it accepted is acknowledged.
func TestWithoutDeliveries(t *testing.T) {
	most := 0
	for _, p := range plays() {
		if p.name != "unbrought" {
			continue
		}
		for _, w := range p.worlds {
			one, two := w.Nodes[0], w.Nodes[1]
			if w.Lead != 1 || w.Term != 1 || w.Both || two.Term != 0 || two.Leads || len(two.Ops) > 0 || !slices.Equal(one.Ops, w.Done) {
				t.Fatal(w)
			}
			most = max(most, len(w.Done))
		}
	}
	if most < 10 {
		t.Error("the runs are poor:", most)
	}
}

// P83: delivering the first message twice leaves the nodes and the acknowledged operations as delivering it once.
func TestDeliveredTwice(t *testing.T) {
	delivered := map[int]int{}
	eachWorld(2, func(w impl.World) {
		if len(w.Nets) == 0 || len(w.Nets) == impl.NetMax {
			return
		}
		once := do(w, bring(0))
		twice := do(w, impl.Event{Kind: impl.EvTwice}, bring(0), bring(len(w.Nets)-1))
		if !sameNodes(once.Nodes, twice.Nodes) || !slices.Equal(once.Done, twice.Done) || once.Both != twice.Both {
			t.Fatalf("%v: once %v, twice %v", w, once, twice)
		}
		delivered[w.Nets[0].Kind]++
	})
	for kind := 1; kind <= 4; kind++ {
		if delivered[kind] < 20 {
			t.Error("too few of a kind:", delivered)
		}
	}
}

// P84: a message to a node that is not running is lost, and nothing else changes.
func TestNotRunning(t *testing.T) {
	eachWorld(11, func(w impl.World) {
		for at, m := range w.Nets {
			down := do(w, impl.Event{Kind: impl.EvFall, A: m.To})
			want := worldCopy(w)
			want.Nodes[m.To-1].Up = false
			want.Nets = slices.Delete(want.Nets, at, at+1)
			if out := do(down, bring(at)); !sameWorld(out, want) {
				t.Fatalf("%v to a node that is not running: %v, not %v", m, out, want)
			}
		}
	})
}

// emptied is a run with nothing in transit whose nodes run.
func emptied(w impl.World) impl.World {
	for range w.Nets {
		w = do(w, impl.Event{Kind: impl.EvLose})
	}
	return do(w, impl.Event{Kind: impl.EvRise, A: 1}, impl.Event{Kind: impl.EvRise, A: 2})
}

// P87: with nothing in transit and both nodes running, EvJoin, its message and the answer make Both true.
func TestJoin(t *testing.T) {
	eachWorld(7, func(w impl.World) {
		asked := do(emptied(w), impl.Event{Kind: impl.EvJoin})
		answered := do(asked, bring(0))
		out := do(answered, bring(0))
		if len(asked.Nets) != 1 || asked.Nets[0].Kind != impl.MsgJoin || len(answered.Nets) != 1 || answered.Nets[0].Kind != impl.MsgJoined {
			t.Fatalf("%v: %v, answered %v", w, asked.Nets, answered.Nets)
		}
		if !out.Both || len(out.Nets) > 0 || answered.Both != w.Both || !sameWorld(asked, do(asked, impl.Event{Kind: 0})) {
			t.Fatalf("%v joins: %v", w, out)
		}
	})
}

// P87: a leader that has accepted an operation since it asked stays alone, until it asks again.
func TestAcceptedSinceJoin(t *testing.T) {
	since, next := 0, numbers(87)
	eachWorld(13, func(w impl.World) {
		w = emptied(w)
		lead, _ := sidesOf(w)
		if w.Both || len(lead.Ops) == impl.LogMax {
			return
		}
		since++
		w = do(w, impl.Event{Kind: impl.EvJoin}, bring(0), impl.Event{Kind: impl.EvAsk, A: w.Lead, Op: someAccepted(*lead, next)})
		w = do(w, bring(0))
		if lead, other := sidesOf(w); w.Both || !lead.Alone || !slices.Equal(w.Done, lead.Ops) || len(other.Ops) != len(lead.Ops)-1 || len(w.Nets) != 1 {
			t.Fatalf("after MsgJoined: %v", w)
		}
		if w = do(w, bring(0), bring(0)); w.Both || len(w.Nodes[0].Ops) != len(w.Nodes[1].Ops) {
			t.Fatalf("after MsgHas: %v", w)
		}
		if w = do(w, impl.Event{Kind: impl.EvJoin}, bring(0), bring(0)); !w.Both {
			t.Fatalf("after MsgJoined: %v", w)
		}
	})
	if since < 100 {
		t.Error("too few:", since)
	}
}

// P88: a run is invalid if more is acknowledged than the leader has, if nobody leads, or if both nodes lead the current term.
func TestRunsThatAreNone(t *testing.T) {
	next := numbers(88)
	eachWorld(9, func(w impl.World) {
		more, nobody, both := worldCopy(w), worldCopy(w), worldCopy(w)
		lead, _ := sidesOf(w)
		if len(lead.Ops) < impl.LogMax {
			more.Done = and(lead.Ops, someAccepted(*lead, next))
		} else {
			more.Done = and(lead.Ops, goneOp("A"))
		}
		lead, other := sidesOf(nobody)
		lead.Leads, lead.Alone, other.Leads = false, false, false
		_, other = sidesOf(both)
		other.Term, other.Leads = w.Term, true
		for what, w := range map[string]impl.World{"more is acknowledged": more, "nobody leads": nobody, "both lead": both} {
			if impl.WorldOk(w) || !zeroWorld(impl.WorldDo(w, impl.Event{Kind: impl.EvJoin})) || !zeroWorld(impl.WorldCalm(w, 1)) {
				t.Fatalf("%s: %v", what, w)
			}
		}
	})
}

// P69, P80, P87: a run by hand, in which node 1 leads on unaware of node 2, and what it accepts then is lost, but was not acknowledged.
func TestWorldStepByStep(t *testing.T) {
	w := impl.WorldNew()
	for i, c := range []struct {
		e                impl.Event
		term, lead       int
		both             bool
		one, two, done   int
		nets             []int
		leadsOne, twoUps bool
	}{
		{ask(1, "make A 2"), 1, 1, false, 1, 0, 1, []int{1}, true, true},
		{bring(0), 1, 1, false, 1, 0, 1, nil, true, true},
		{impl.Event{Kind: impl.EvJoin}, 1, 1, false, 1, 0, 1, []int{3}, true, true},
		{bring(0), 1, 1, false, 1, 1, 1, []int{4}, true, true},
		{impl.Event{Kind: impl.EvTurn}, 1, 1, false, 1, 1, 1, []int{4}, true, true},
		{bring(0), 1, 1, true, 1, 1, 1, nil, true, true},
		{ask(1, "write A 0 a"), 1, 1, true, 2, 1, 1, []int{1}, true, true},
		{ask(1, "write A 1 b"), 1, 1, true, 3, 1, 1, []int{1, 1}, true, true},
		{bring(1), 1, 1, true, 3, 1, 1, []int{1}, true, true},
		{bring(0), 1, 1, true, 3, 2, 1, []int{2}, true, true},
		{impl.Event{Kind: impl.EvTwice}, 1, 1, true, 3, 2, 1, []int{2, 2}, true, true},
		{bring(1), 1, 1, true, 3, 2, 2, []int{2}, true, true},
		{impl.Event{Kind: impl.EvTurn}, 2, 2, false, 3, 2, 2, []int{2}, true, true},
		{ask(1, "gone A"), 2, 2, false, 4, 2, 2, []int{2, 1}, true, true},
		{ask(2, "clone A B"), 2, 2, false, 4, 3, 3, []int{2, 1, 1}, true, true},
		{bring(0), 2, 2, false, 4, 3, 3, []int{1, 1}, true, true},
		{bring(0), 2, 2, false, 4, 3, 3, []int{1}, true, true},
		{bring(0), 2, 2, false, 4, 3, 3, nil, true, true},
		{impl.Event{Kind: impl.EvFall, A: 2}, 2, 2, false, 4, 3, 3, nil, true, false},
		{impl.Event{Kind: impl.EvJoin}, 2, 2, false, 4, 3, 3, nil, true, false},
		{impl.Event{Kind: impl.EvRise, A: 2}, 2, 2, false, 4, 3, 3, nil, true, true},
		{impl.Event{Kind: impl.EvJoin}, 2, 2, false, 4, 3, 3, []int{3}, true, true},
		{bring(0), 2, 2, false, 3, 3, 3, []int{4}, false, true},
		{bring(0), 2, 2, true, 3, 3, 3, nil, false, true},
		{impl.Event{Kind: impl.EvAlone}, 3, 2, false, 3, 3, 3, nil, false, true},
		{ask(2, "gone B"), 3, 2, false, 3, 4, 4, []int{1}, false, true},
		{bring(0), 3, 2, false, 3, 4, 4, nil, false, true},
	} {
		w = checkDo(t, "step by step", w, c.e, wantEvent(w, c.e))
		var nets []int
		for _, m := range w.Nets {
			nets = append(nets, m.Kind)
		}
		if w.Term != c.term || w.Lead != c.lead || w.Both != c.both || len(w.Nodes[0].Ops) != c.one || len(w.Nodes[1].Ops) != c.two || len(w.Done) != c.done ||
			!slices.Equal(nets, c.nets) || w.Nodes[0].Leads != c.leadsOne || w.Nodes[1].Up != c.twoUps {
			t.Fatalf("step %d: %v gives %v", i, c.e, w)
		}
	}
	if got := impl.PoolText(impl.NodePool(w.Nodes[1])); got != "A a -\n" {
		t.Errorf("%q", got)
	}
}
