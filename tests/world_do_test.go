package tests

import (
	"math"
	"slices"
	"testing"

	"loop.example/garner/impl"
)

// sent are messages in transit with a further one, if there is space.
func sent(nets []impl.Msg, m impl.Msg) []impl.Msg {
	if len(nets) == impl.NetMax {
		return nets
	}
	return append(slices.Clone(nets), m)
}

// wantEvent is what an event must make of a valid run.
func wantEvent(w impl.World, e impl.Event) impl.World {
	w = worldCopy(w)
	lead, other := sidesOf(w)
	isNode, isMsg := e.A == 1 || e.A == 2, e.A >= 0 && e.A < len(w.Nets)
	switch {
	case e.Kind == impl.EvAsk && isNode:
		if n, m, ok := impl.NodeAsk(w.Nodes[e.A-1], e.A, e.Op); ok {
			w.Nodes[e.A-1], w.Nets = n, sent(w.Nets, m)
			if n.Alone {
				w.Done = n.Ops
			}
		}
	case e.Kind == impl.EvBring && isMsg:
		m := w.Nets[e.A]
		w.Nets = slices.Delete(w.Nets, e.A, e.A+1)
		return wantBrought(w, m)
	case e.Kind == impl.EvLose && isMsg:
		w.Nets = slices.Delete(w.Nets, e.A, e.A+1)
	case e.Kind == impl.EvTwice && isMsg:
		w.Nets = sent(w.Nets, w.Nets[e.A])
	case e.Kind == impl.EvFall && isNode:
		w.Nodes[e.A-1].Up = false
	case e.Kind == impl.EvRise && isNode:
		w.Nodes[e.A-1].Up = true
	case e.Kind == impl.EvTurn && w.Both && other.Up:
		return wantLeader(w, 3-w.Lead)
	case e.Kind == impl.EvAlone && w.Both && lead.Up:
		return wantLeader(w, w.Lead)
	case e.Kind == impl.EvJoin && lead.Up:
		w.Nets = sent(w.Nets, joinMsg(3-w.Lead, w.Term, lead.Ops))
	}
	return w
}

// wantBrought is what a message that has been removed makes of a run.
func wantBrought(w impl.World, m impl.Msg) impl.World {
	n := &w.Nodes[m.To-1]
	if m.Kind == impl.MsgCopy || m.Kind == impl.MsgJoin {
		if out, answer, ok := impl.NodeHear(*n, m.To, m); ok {
			*n, w.Nets = out, sent(w.Nets, answer)
		}
		return w
	}
	if !n.Up || !n.Leads || n.Term != m.Term {
		return w
	}
	if n.Alone && m.Kind == impl.MsgJoined && m.N == len(n.Ops) {
		n.Alone, w.Both = false, true
	}
	if m.N > len(w.Done) && m.N <= len(n.Ops) {
		w.Done = n.Ops[:m.N]
	}
	return w
}

// wantLeader is a run after a node takes over.
func wantLeader(w impl.World, id int) impl.World {
	if w.Term < termMax {
		w.Term, w.Lead, w.Both = w.Term+1, id, false
		n := &w.Nodes[id-1]
		n.Term, n.Leads, n.Alone = w.Term, true, true
		w.Done = n.Ops
	}
	return w
}

// checkDo lets an event happen to a valid run and compares the result with the one that it must be; it returns the result.
func checkDo(t *testing.T, what string, w impl.World, e impl.Event, want impl.World) impl.World {
	t.Helper()
	before := worldCopy(w)
	out := impl.WorldDo(w, e)
	if !sameWorld(out, want) || !impl.WorldOk(out) {
		t.Fatalf("%s: %v on\n%v gives\n%v, not\n%v", what, e, before, out, want)
	}
	if !sameWorld(w, before) {
		t.Fatalf("%s: %v changes %v", what, e, before)
	}
	return out
}

// happening is an event in a run of a form, of which something is different: the leader is 1 and the other node 2.
type happening struct {
	what, form string
	prepare    func(w *impl.World, lead, other *impl.Node)
	e          impl.Event
	change     func(w *impl.World, lead, other *impl.Node)
}

// nothing is no change.
func nothing(*impl.World, *impl.Node, *impl.Node) {}

// carries puts messages in transit; they are to the node that they name where the leader is 1, and else to the other one.
func carries(msgs ...impl.Msg) func(w *impl.World, lead, other *impl.Node) {
	return func(w *impl.World, _, _ *impl.Node) {
		w.Nets = nil
		for _, m := range msgs {
			if w.Lead == 2 {
				m.To = 3 - m.To
			}
			w.Nets = append(w.Nets, m)
		}
	}
}

// leadFalls and otherFalls stop a node after something else.
func leadFalls(then func(w *impl.World, lead, other *impl.Node)) func(w *impl.World, lead, other *impl.Node) {
	return func(w *impl.World, lead, other *impl.Node) { then(w, lead, other); lead.Up = false }
}

func otherFalls(then func(w *impl.World, lead, other *impl.Node)) func(w *impl.World, lead, other *impl.Node) {
	return func(w *impl.World, lead, other *impl.Node) { then(w, lead, other); other.Up = false }
}

// crowd are as many messages, all different.
func crowd(count int) []impl.Msg {
	var out []impl.Msg
	for i := range count {
		out = append(out, hasMsg(1, 4, i))
	}
	return out
}

// mirrored is an event where the leader is 2.
func mirrored(e impl.Event) impl.Event {
	if isNode := e.A == 1 || e.A == 2; isNode && slices.Contains([]int{impl.EvAsk, impl.EvFall, impl.EvRise}, e.Kind) {
		e.A = 3 - e.A
	}
	return e
}

// checkHappenings checks what each event does, with either leader. Where the leader is 2, after is told as if it were 1, too.
func checkHappenings(t *testing.T, all []happening) {
	t.Helper()
	for _, h := range all {
		for first := 1; first <= 2; first++ {
			w, e := worldCopy(worldsOf(first)[h.form]), h.e
			lead, other := sidesOf(w)
			h.prepare(&w, lead, other)
			if first == 2 {
				e = mirrored(e)
			}
			if !impl.WorldOk(w) {
				t.Fatalf("%s: no run: %v", h.what, w)
			}
			want := worldCopy(w)
			lead, other = sidesOf(want)
			h.change(&want, lead, other)
			checkDo(t, h.what, w, e, want)
			if model := wantEvent(w, e); !sameWorld(model, want) {
				t.Fatalf("%s: the model gives %v, not %v", h.what, model, want)
			}
		}
	}
}

func ask(id int, text string) impl.Event {
	return impl.Event{Kind: impl.EvAsk, A: id, Op: opsOf(text)[0]}
}

func bring(at int) impl.Event {
	return impl.Event{Kind: impl.EvBring, A: at}
}

// hasFull lets the leader have as many of LogMax operations, all of them acknowledged.
func hasFull(count int) func(w *impl.World, lead, other *impl.Node) {
	return func(w *impl.World, lead, _ *impl.Node) { lead.Ops, w.Done = fullOps()[:count], fullOps()[:count] }
}

// P80, P85, P86: EvAsk of a node that leads, alone or not, or an earlier term only, with and without space in transit;
// and where it is not possible.
func TestWorldDoAsk(t *testing.T) {
	ops, last, stray := worldOps(), "free A 0", writeOp("C", 0, "d")
	accepted := func(w *impl.World, lead, _ *impl.Node) {
		lead.Ops = ops
		if lead.Alone {
			w.Done = ops
		}
	}
	andSent := func(w *impl.World, lead, other *impl.Node) {
		accepted(w, lead, other)
		w.Nets = append(w.Nets, copyMsg(3-w.Lead, 7, 5, ops[4]))
	}
	strayAccepted := func(_ *impl.World, _, other *impl.Node) { other.Ops = append(other.Ops, stray) }
	strayFull := func(_ *impl.World, _, other *impl.Node) { other.Ops = fullOps() }
	checkHappenings(t, []happening{
		{"alone", "behind", nothing, ask(1, last), andSent},
		{"alone, the other node joining", "joining", nothing, ask(1, last), andSent},
		{"alone, the other node leading an earlier term", "stray", nothing, ask(1, last), andSent},
		{"alone, the other node not running", "joining", otherFalls(nothing), ask(1, last), andSent},
		{"not alone", "both", nothing, ask(1, last), andSent},
		{"not alone, the other node not running", "both", otherFalls(nothing), ask(1, last), andSent},
		{"alone, 11 messages", "behind", carries(crowd(11)...), ask(1, last), andSent},
		{"not alone, 11 messages", "both", carries(crowd(11)...), ask(1, last), andSent},
		{"alone, 12 messages", "behind", carries(crowd(12)...), ask(1, last), accepted},
		{"not alone, 12 messages", "both", carries(crowd(12)...), ask(1, last), accepted},
		{"the previous leader", "stray", nothing, ask(2, "write C 0 d"), func(w *impl.World, lead, other *impl.Node) {
			strayAccepted(w, lead, other)
			w.Nets = append(w.Nets, copyMsg(w.Lead, 5, 6, stray))
		}},
		{"the previous leader, 12 messages", "stray", carries(crowd(12)...), ask(2, "write C 0 d"), strayAccepted},
		{"the previous leader, the leader not running", "stray", leadFalls(carries(crowd(12)...)), ask(2, "write C 0 d"), strayAccepted},
		{"the previous leader with a full log", "stray", strayFull, ask(2, "write A 1 a"), nothing},
		{"the previous leader, not running", "stray", otherFalls(nothing), ask(2, "write C 0 d"), nothing},
		{"the 20th operation", "behind", hasFull(19), ask(1, "write A 0 aa"), func(w *impl.World, lead, _ *impl.Node) {
			lead.Ops, w.Done, w.Nets = fullOps(), fullOps(), []impl.Msg{copyMsg(3-w.Lead, 7, 20, fullOps()[19])}
		}},
		{"a full log", "behind", hasFull(20), ask(1, "write A 1 a"), nothing},
		{"no leader", "both", nothing, ask(2, "write A 1 a"), nothing},
		{"no leader, joining", "joining", nothing, ask(2, last), nothing},
		{"no leader, behind", "behind", nothing, ask(2, "write C 0 d"), nothing},
		{"alone, not running", "behind", leadFalls(nothing), ask(1, last), nothing},
		{"not alone, not running", "both", leadFalls(nothing), ask(1, last), nothing},
		{"an invalid operation", "behind", nothing, ask(1, "make A 9"), nothing},
		{"an invalid operation, not alone", "both", nothing, ask(1, "write E 0 a"), nothing},
		{"an invalid operation to a full log", "behind", hasFull(20), ask(1, ""), nothing},
		{"not possible", "behind", nothing, ask(1, "make B 1"), nothing},
		{"not possible, not alone", "both", nothing, ask(1, "write A 2 a"), nothing},
		{"node 0", "behind", nothing, ask(0, last), nothing},
		{"node 3", "behind", nothing, ask(3, last), nothing},
		{"node -1", "both", nothing, ask(-1, last), nothing},
	})
}

// P85: no invalid operation is accepted, and nothing is asked of a node that there is not.
func TestWorldDoAskOfNothing(t *testing.T) {
	for form, w := range worldsOf(2) {
		for _, o := range noLogOps() {
			for id := 1; id <= 2; id++ {
				checkDo(t, form, w, impl.Event{Kind: impl.EvAsk, A: id, Op: o}, w)
			}
		}
		for _, id := range noNodeIds() {
			for _, kind := range []int{impl.EvAsk, impl.EvFall, impl.EvRise} {
				checkDo(t, form, w, impl.Event{Kind: kind, A: id, Op: makeOp("D", 1)}, w)
			}
		}
	}
}

// P86: EvBring of MsgCopy: to a node that runs and to one that does not, of the current term and of an earlier one, answered or not.
func TestWorldDoBringCopy(t *testing.T) {
	ops, gone := worldOps(), goneOp("C")
	none := carries()
	next := carries(copyMsg(2, 7, 4, ops[3]))
	stray := carries(copyMsg(2, 5, 6, gone))
	appended := func(w *impl.World, lead, other *impl.Node) {
		other.Ops = ops[:4]
		carries(hasMsg(1, 7, 4))(w, lead, other)
	}
	checkHappenings(t, []happening{
		{"the next one", "both", next, bring(0), appended},
		{"the next one, the leader not running", "both", leadFalls(next), bring(0), appended},
		{"the next one, the leader alone", "joining", carries(copyMsg(2, 7, 3, ops[2])), bring(0), func(w *impl.World, lead, other *impl.Node) {
			other.Ops = ops[:3]
			carries(hasMsg(1, 7, 3))(w, lead, other)
		}},
		{"one that it has", "both", carries(copyMsg(2, 7, 2, ops[1])), bring(0), carries(hasMsg(1, 7, 2))},
		{"not running", "both", otherFalls(next), bring(0), none},
		{"not running, one that it has", "both", otherFalls(carries(copyMsg(2, 7, 1, ops[0]))), bring(0), none},
		{"beyond the next one", "joining", next, bring(0), none},
		{"to a node of an earlier term", "behind", next, bring(0), none},
		{"to the previous leader", "ahead", next, bring(0), none},
		{"of an earlier term, to a node of that term", "behind", stray, bring(0), func(w *impl.World, lead, other *impl.Node) {
			other.Ops = append(other.Ops, gone)
			carries(hasMsg(1, 5, 6))(w, lead, other)
		}},
		{"of an earlier term, one that it has", "behind", carries(copyMsg(2, 5, 5, strayOps()[4])), bring(0), carries(hasMsg(1, 5, 5))},
		{"of an earlier term, another one", "behind", carries(copyMsg(2, 5, 5, gone)), bring(0), none},
		{"of an earlier term, not running", "behind", otherFalls(stray), bring(0), none},
		{"of an earlier term, to the previous leader itself", "stray", stray, bring(0), none},
		{"of an earlier term, to a node of the current one", "both", carries(copyMsg(2, 6, 4, ops[3])), bring(0), none},
		{"of an earlier term, to the leader", "both", carries(copyMsg(1, 6, 5, ops[4])), bring(0), none},
		{"of an earlier term, to the leader, one that it has", "stray", carries(copyMsg(1, 5, 1, ops[0])), bring(0), none},
	})
}

// P86: EvBring of MsgJoin, likewise.
func TestWorldDoBringJoin(t *testing.T) {
	ops, none := worldOps(), carries()
	all := carries(joinMsg(2, 7, ops[:4]))
	adopted := func(w *impl.World, lead, other *impl.Node) {
		*other = nodeOf(follower, 7, ops[:4])
		carries(joinedMsg(1, 7, 4))(w, lead, other)
	}
	checkHappenings(t, []happening{
		{"behind", "behind", all, bring(0), adopted},
		{"behind, the leader not running", "behind", leadFalls(all), bring(0), adopted},
		{"the previous leader", "stray", all, bring(0), adopted},
		{"the previous leader, one more", "ahead", all, bring(0), adopted},
		{"more", "joining", all, bring(0), adopted},
		{"more while Both is true", "both", all, bring(0), adopted},
		{"as many", "both", carries(joinMsg(2, 7, ops[:3])), bring(0), carries(joinedMsg(1, 7, 3))},
		{"fewer", "both", carries(joinMsg(2, 7, nil)), bring(0), carries(joinedMsg(1, 7, 3))},
		{"fewer, joining", "joining", carries(joinMsg(2, 7, ops[:1])), bring(0), carries(joinedMsg(1, 7, 2))},
		{"fewer, of a later term", "behind", carries(joinMsg(2, 7, ops[:1])), bring(0), func(w *impl.World, lead, other *impl.Node) {
			*other = nodeOf(follower, 7, ops[:1])
			carries(joinedMsg(1, 7, 1))(w, lead, other)
		}},
		{"not running", "behind", otherFalls(all), bring(0), none},
		{"not running while Both is true", "both", otherFalls(all), bring(0), none},
		{"of an earlier term that is later than its own", "stray", carries(joinMsg(2, 6, fullOps())), bring(0), func(w *impl.World, lead, other *impl.Node) {
			*other = nodeOf(follower, 6, fullOps())
			carries(joinedMsg(1, 6, 20))(w, lead, other)
		}},
		{"of the same earlier term, more", "behind", carries(joinMsg(2, 5, fullOps())), bring(0), func(w *impl.World, lead, other *impl.Node) {
			*other = nodeOf(follower, 5, fullOps())
			carries(joinedMsg(1, 5, 20))(w, lead, other)
		}},
		{"of the same earlier term, fewer", "behind", carries(joinMsg(2, 5, ops[:4])), bring(0), carries(joinedMsg(1, 5, 5))},
		{"of the same earlier term, to the previous leader", "stray", carries(joinMsg(2, 5, fullOps())), bring(0), none},
		{"of a still earlier term", "behind", carries(joinMsg(2, 4, fullOps())), bring(0), none},
		{"of an earlier term, while Both is true", "both", carries(joinMsg(2, 6, fullOps())), bring(0), none},
		{"of an earlier term, to the leader", "stray", carries(joinMsg(1, 6, fullOps())), bring(0), none},
		{"of an earlier term, not running", "stray", otherFalls(carries(joinMsg(2, 6, fullOps()))), bring(0), none},
	})
}

// equal lets the other node have the operations of the leader, after something else.
func equal(then func(w *impl.World, lead, other *impl.Node)) func(w *impl.World, lead, other *impl.Node) {
	return func(w *impl.World, lead, other *impl.Node) {
		then(w, lead, other)
		other.Ops = slices.Clone(lead.Ops)
	}
}

// P69, P76, P80: EvBring of MsgHas and of MsgJoined acknowledges operations of a leader that runs, of its own term, and nothing else.
func TestWorldDoBringAnswers(t *testing.T) {
	ops, none := worldOps(), carries()
	acknowledged := func(n int) func(w *impl.World, lead, other *impl.Node) {
		return func(w *impl.World, _, _ *impl.Node) { w.Nets, w.Done = nil, ops[:n] }
	}
	for _, answer := range []func(to, term, n int) impl.Msg{hasMsg, joinedMsg} {
		carry := func(to, term, n int) func(w *impl.World, lead, other *impl.Node) { return carries(answer(to, term, n)) }
		checkHappenings(t, []happening{
			{"one more", "both", carry(1, 7, 3), bring(0), acknowledged(3)},
			{"two more", "both", equal(carry(1, 7, 4)), bring(0), acknowledged(4)},
			{"one more, the other node not running", "both", otherFalls(carry(1, 7, 3)), bring(0), acknowledged(3)},
			{"as many", "both", carry(1, 7, 2), bring(0), none},
			{"fewer", "both", carry(1, 7, 1), bring(0), none},
			{"none", "both", carry(1, 7, 0), bring(0), none},
			{"not running", "both", leadFalls(equal(carry(1, 7, 4))), bring(0), none},
			{"not running, alone", "joining", leadFalls(equal(carry(1, 7, 4))), bring(0), none},
			{"of an earlier term", "both", equal(carry(1, 6, 4)), bring(0), none},
			{"of an earlier term, alone", "joining", equal(carry(1, 6, 4)), bring(0), none},
			{"fewer than a leader alone has", "joining", carry(1, 7, 2), bring(0), none},
			{"none of those that a leader alone has", "joining", carry(1, 7, 0), bring(0), none},
			{"to the previous leader", "stray", carry(2, 5, 2), bring(0), none},
			{"to the previous leader, all acknowledged ones", "ahead", carry(2, 5, 4), bring(0), none},
			{"to the previous leader, all that it has", "ahead", equal(carry(2, 5, 4)), bring(0), none},
			{"to the previous leader, not running", "ahead", otherFalls(carry(2, 5, 4)), bring(0), none},
			{"to the previous leader, of another term", "stray", carry(2, 4, 5), bring(0), none},
			{"to the previous leader, of a later term than its own", "stray", carry(2, 6, 5), bring(0), none},
			{"to one that leads no more", "behind", carry(2, 5, 5), bring(0), none},
			{"to one that has joined", "both", carry(2, 5, 20), bring(0), none},
		})
	}
}

// P87: a leader that is alone is so no more with MsgJoined of as many operations as it has, but not with fewer: it may have accepted more since.
func TestWorldDoBringJoined(t *testing.T) {
	ops := worldOps()
	together := func(w *impl.World, lead, _ *impl.Node) { w.Nets, w.Both, lead.Alone = nil, true, false }
	empty := func(then func(w *impl.World, lead, other *impl.Node)) func(w *impl.World, lead, other *impl.Node) {
		return func(w *impl.World, lead, other *impl.Node) {
			then(w, lead, other)
			lead.Ops, other.Ops, w.Done = nil, nil, nil
		}
	}
	acceptedSince := func(w *impl.World, lead, other *impl.Node) {
		equal(carries(joinedMsg(1, 7, 4)))(w, lead, other)
		lead.Ops, w.Done = ops, ops
	}
	checkHappenings(t, []happening{
		{"as many", "joining", equal(carries(joinedMsg(1, 7, 4))), bring(0), together},
		{"as many, the other node not running", "joining", otherFalls(equal(carries(joinedMsg(1, 7, 4)))), bring(0), together},
		{"none", "joining", empty(carries(joinedMsg(1, 7, 0))), bring(0), together},
		{"MsgHas of as many", "joining", equal(carries(hasMsg(1, 7, 4))), bring(0), carries()},
		{"MsgHas of none", "joining", empty(carries(hasMsg(1, 7, 0))), bring(0), carries()},
		{"one accepted since", "joining", acceptedSince, bring(0), carries()},
		{"fewer, though the other node has all now", "joining", equal(carries(joinedMsg(1, 7, 3))), bring(0), carries()},
		{"of an earlier term", "joining", equal(carries(joinedMsg(1, 5, 4))), bring(0), carries()},
		{"not running", "joining", leadFalls(equal(carries(joinedMsg(1, 7, 4)))), bring(0), carries()},
	})
}

// P85, P94: messages are told apart by their index, and those that stay keep their order; an answer is sent after them.
func TestWorldDoOfEachMessage(t *testing.T) {
	ops := worldOps()
	for _, count := range []int{0, 1, 2, 5, 11, 12} {
		w := bothWorld(1)
		for i := range count {
			w.Nets = append(w.Nets, copyMsg(2, 7, 1+i%3, ops[i%3]))
		}
		for at := range count {
			rest := slices.Delete(slices.Clone(w.Nets), at, at+1)
			lost, brought, twice := w, w, w
			lost.Nets, brought.Nets = rest, append(slices.Clone(rest), hasMsg(1, 7, 1+at%3))
			checkDo(t, "lost", w, impl.Event{Kind: impl.EvLose, A: at}, lost)
			checkDo(t, "brought", w, bring(at), brought)
			if count < impl.NetMax {
				twice.Nets = append(slices.Clone(w.Nets), w.Nets[at])
			}
			checkDo(t, "twice", w, impl.Event{Kind: impl.EvTwice, A: at}, twice)
		}
		for _, at := range []int{-1, -2, -count, -12, math.MinInt, count, count + 1, 12, 13, 24, 256, 1 << 32, math.MaxInt} {
			if at >= 0 && at < count || at == 0 && count > 0 {
				continue
			}
			for _, kind := range []int{impl.EvBring, impl.EvLose, impl.EvTwice} {
				checkDo(t, "no message", w, impl.Event{Kind: kind, A: at}, w)
			}
		}
	}
}

// P86, P94: EvTwice of the last space in transit, and without space; a message that is brought makes space for its answer.
func TestWorldDoWithoutSpace(t *testing.T) {
	ops := worldOps()
	next := copyMsg(2, 7, 4, ops[3])
	full := append(crowd(11), next)
	checkHappenings(t, []happening{
		{"twice, 11 messages", "both", carries(full[1:]...), impl.Event{Kind: impl.EvTwice, A: 10}, carries(append(full[1:], next)...)},
		{"twice, 12 messages", "both", carries(full...), impl.Event{Kind: impl.EvTwice, A: 11}, nothing},
		{"twice, 12 messages, the first", "both", carries(full...), impl.Event{Kind: impl.EvTwice, A: 0}, nothing},
		{"twice, of MsgJoin", "both", carries(joinMsg(2, 7, ops[:4])), impl.Event{Kind: impl.EvTwice}, carries(joinMsg(2, 7, ops[:4]), joinMsg(2, 7, ops[:4]))},
		{"an answer, 12 messages", "both", carries(full...), bring(11), func(w *impl.World, lead, other *impl.Node) {
			other.Ops = ops[:4]
			carries(append(crowd(11), hasMsg(1, 7, 4))...)(w, lead, other)
		}},
		{"no answer, 12 messages", "both", otherFalls(carries(full...)), bring(11), carries(crowd(11)...)},
		{"join, 11 messages", "both", carries(crowd(11)...), impl.Event{Kind: impl.EvJoin}, carries(append(crowd(11), joinMsg(2, 7, ops[:4]))...)},
		{"join, 12 messages", "both", carries(full...), impl.Event{Kind: impl.EvJoin}, nothing},
	})
}

// P84: EvFall and EvRise change only whether a node runs.
func TestWorldDoFallAndRise(t *testing.T) {
	for lead := 1; lead <= 2; lead++ {
		for form, w := range worldsOf(lead) {
			w.Nets = eachKind(w)
			for i := range 8 {
				w, id, kind := worldCopy(w), 1+i&1, impl.EvFall
				w.Nodes[0].Up, w.Nodes[1].Up = i&2 != 0, i&4 != 0
				for _, up := range []bool{false, true} {
					want := worldCopy(w)
					want.Nodes[id-1].Up = up
					checkDo(t, form, w, impl.Event{Kind: kind, A: id}, want)
					kind = impl.EvRise
				}
			}
		}
	}
}

// inTerm puts a run in which both nodes have the current term in another one.
func inTerm(term int) func(w *impl.World, lead, other *impl.Node) {
	return func(w *impl.World, lead, other *impl.Node) { w.Term, lead.Term, other.Term = term, term, term }
}

// P75, P76: EvTurn if Both is true and the other node runs, and otherwise; at the last terms, too.
func TestWorldDoTurn(t *testing.T) {
	turn := impl.Event{Kind: impl.EvTurn}
	msgs := carries(hasMsg(1, 7, 3), copyMsg(2, 7, 4, worldOps()[3]), joinMsg(2, 7, worldOps()[:4]), joinedMsg(1, 7, 0), hasMsg(2, 6, 20))
	turned := func(w *impl.World, lead, other *impl.Node) {
		w.Term++
		other.Term, other.Leads, other.Alone = w.Term, true, true
		w.Lead, w.Both, w.Done = 3-w.Lead, false, slices.Clone(other.Ops)
	}
	checkHappenings(t, []happening{
		{"both", "both", nothing, turn, turned},
		{"with messages in transit", "both", msgs, turn, turned},
		{"the leader not running", "both", leadFalls(nothing), turn, turned},
		{"the other node has all", "both", equal(nothing), turn, turned},
		{"from term 0", "both", inTerm(0), turn, turned},
		{"to term 99", "both", inTerm(98), turn, turned},
		{"at term 99", "both", inTerm(99), turn, nothing},
		{"the other node not running", "both", otherFalls(nothing), turn, nothing},
		{"both not running", "both", leadFalls(otherFalls(nothing)), turn, nothing},
		{"joining", "joining", nothing, turn, nothing},
		{"joining, with the same operations", "joining", equal(nothing), turn, nothing},
		{"joining, the leader not running", "joining", leadFalls(equal(nothing)), turn, nothing},
		{"the previous leader", "stray", nothing, turn, nothing},
		{"the previous leader, one more", "ahead", nothing, turn, nothing},
		{"behind", "behind", nothing, turn, nothing},
		{"a node is named", "both", nothing, impl.Event{Kind: impl.EvTurn, A: 3, Op: makeOp("A", 9)}, turned},
	})
}

// P92: EvAlone if Both is true and the leader runs, and otherwise; at the last terms, too.
func TestWorldDoAlone(t *testing.T) {
	alone := impl.Event{Kind: impl.EvAlone}
	msgs := carries(hasMsg(1, 7, 3), copyMsg(2, 7, 4, worldOps()[3]), joinMsg(2, 7, worldOps()[:4]), joinedMsg(1, 7, 0), hasMsg(2, 6, 20))
	takes := func(w *impl.World, lead, _ *impl.Node) {
		w.Term++
		lead.Term, lead.Alone = w.Term, true
		w.Both, w.Done = false, slices.Clone(lead.Ops)
	}
	checkHappenings(t, []happening{
		{"both", "both", nothing, alone, takes},
		{"with messages in transit", "both", msgs, alone, takes},
		{"the other node not running", "both", otherFalls(nothing), alone, takes},
		{"the other node has all", "both", equal(nothing), alone, takes},
		{"from term 0", "both", inTerm(0), alone, takes},
		{"to term 99", "both", inTerm(98), alone, takes},
		{"at term 99", "both", inTerm(99), alone, nothing},
		{"not running", "both", leadFalls(nothing), alone, nothing},
		{"both not running", "both", leadFalls(otherFalls(nothing)), alone, nothing},
		{"joining", "joining", nothing, alone, nothing},
		{"the previous leader", "stray", nothing, alone, nothing},
		{"behind", "behind", otherFalls(nothing), alone, nothing},
		{"a node is named", "both", nothing, impl.Event{Kind: impl.EvAlone, A: 2, Op: makeOp("A", 9)}, takes},
	})
}

// P87: EvJoin of a leader that runs, alone or not, whether the other node runs or not; and of one that does not.
func TestWorldDoJoin(t *testing.T) {
	join := impl.Event{Kind: impl.EvJoin}
	ops := worldOps()[:4]
	asked := func(w *impl.World, _, _ *impl.Node) { w.Nets = append(w.Nets, joinMsg(3-w.Lead, w.Term, ops)) }
	var all []happening
	for form := range worldsOf(1) {
		all = append(all, happening{form, form, nothing, join, asked}, happening{form + ", the other node not running", form, otherFalls(nothing), join, asked},
			happening{form + ", not running", form, leadFalls(nothing), join, nothing}, happening{form + ", with others", form, carries(crowd(3)...), join, asked},
			happening{form + ", a node is named", form, nothing, impl.Event{Kind: impl.EvJoin, A: 7}, asked})
	}
	checkHappenings(t, append(all, happening{"without operations", "behind", hasFull(0), join, carries(joinMsg(2, 7, nil))},
		happening{"20 operations", "stray", hasFull(20), join, carries(joinMsg(2, 7, fullOps()))}, happening{"term 99", "both", inTerm(99), join, carries(joinMsg(2, 99, ops))}))
}

// P85: an event of an unknown kind changes nothing.
func TestWorldDoOfUnknownKinds(t *testing.T) {
	for lead := 1; lead <= 2; lead++ {
		for form, w := range worldsOf(lead) {
			w.Nets = eachKind(w)
			for _, kind := range []int{0, 10, 11, -1, -2, -9, 256, 257, 1<<32 + 1, 1<<32 + 7, math.MinInt, math.MaxInt} {
				for a := -1; a <= 3; a++ {
					checkDo(t, form, w, impl.Event{Kind: kind, A: a, Op: makeOp("D", 1)}, w)
				}
			}
		}
	}
}
