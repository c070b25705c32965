package tests

import (
	"slices"
	"testing"

	"loop.example/garner/impl"
)

// wantHear is what a node must return for a valid message to it, if it is running.
func wantHear(n impl.Node, m impl.Msg) (impl.Node, impl.Msg, bool) {
	switch m.Kind {
	case impl.MsgCopy:
		if m.Term != n.Term || n.Leads {
			break
		}
		answer := impl.Msg{Kind: impl.MsgHas, To: 3 - m.To, Term: n.Term, N: m.N}
		if len(n.Ops) >= m.N {
			if n.Ops[m.N-1] == m.Op {
				return n, answer, true
			}
			break
		}
		if more := and(n.Ops, m.Op); len(more) == m.N && possible(more) {
			n.Ops = more
			return n, answer, true
		}
	case impl.MsgJoin:
		later, further := m.Term > n.Term, m.Term == n.Term && !n.Leads && m.N > len(n.Ops)
		if later || further {
			n = impl.Node{Up: true, Term: m.Term, Ops: m.Ops}
		}
		if later || m.Term == n.Term && !n.Leads {
			return n, impl.Msg{Kind: impl.MsgJoined, To: 3 - m.To, Term: n.Term, N: len(n.Ops)}, true
		}
	}
	return n, impl.Msg{}, false
}

// checkHear lets a running node hear a valid message, twice: the second time it answers alike and nothing changes.
// It returns the node, and whether it answered.
func checkHear(t *testing.T, n impl.Node, m impl.Msg) (impl.Node, bool) {
	t.Helper()
	wantN, answer, want := wantHear(n, m)
	out, got, ok := impl.NodeHear(n, m.To, m)
	checkNode(t, "heard", out, got, ok, wantN, answer, want)
	again, got, ok := impl.NodeHear(out, m.To, m)
	checkNode(t, "heard again", again, got, ok, wantN, answer, want)
	return out, ok
}

// nearTerms are the terms next to that of a node, and the least and the greatest one.
func nearTerms(n impl.Node) []int {
	return slices.DeleteFunc([]int{n.Term, n.Term - 1, n.Term + 1, 0, termMax}, func(term int) bool { return term < 0 || term > termMax })
}

// copies are messages with one operation: those that the node has, with their numbers and with others, the next one, possible or not,
// and some with numbers beyond it.
func copies(n impl.Node) []impl.Msg {
	some := someOps(impl.NodePool(n))
	next := numbers(uint32(56 + len(n.Ops)))
	var out []impl.Msg
	for number := 1; number <= min(len(n.Ops)+3, impl.LogMax); number++ {
		ops := []impl.Op{some[next(len(some))], some[next(len(some))]}
		if number <= len(n.Ops) {
			ops = append(ops, n.Ops[number-1])
		}
		if len(n.Ops) > 0 {
			ops = append(ops, n.Ops[next(len(n.Ops))])
		}
		if number == len(n.Ops)+1 {
			ops = append(ops, some...)
		}
		for _, o := range ops {
			out = append(out, impl.Msg{Kind: impl.MsgCopy, N: number, Op: o})
		}
	}
	return out
}

// joins are messages with lists of operations: those of the node with fewer and with more of them, and others.
func joins(n impl.Node) []impl.Msg {
	lists := opLists()
	for count := range len(n.Ops) + 1 {
		lists = append(lists, n.Ops[:count])
	}
	for count := len(n.Ops); count <= impl.LogMax; count++ {
		more := someLogOps(impl.NodePool(n), count-len(n.Ops), numbers(57))
		lists = append(lists, slices.Concat(n.Ops, more))
	}
	var out []impl.Msg
	for _, ops := range lists {
		out = append(out, impl.Msg{Kind: impl.MsgJoin, N: len(ops), Ops: ops})
	}
	return out
}

// counts are the messages of the two kinds that report a number of operations.
func counts() []impl.Msg {
	var out []impl.Msg
	for n := range impl.LogMax + 1 {
		out = append(out, impl.Msg{Kind: impl.MsgHas, N: n}, impl.Msg{Kind: impl.MsgJoined, N: n})
	}
	return out
}

// upNodes are valid nodes that run.
func upNodes() []impl.Node {
	return slices.DeleteFunc(nodes(), func(n impl.Node) bool { return !n.Up })
}

// eachMsg gives each node with each message, to either node, in each term that is near.
func eachMsg(msgs func(n impl.Node) []impl.Msg, f func(n impl.Node, m impl.Msg)) {
	for _, n := range upNodes() {
		for i, m := range msgs(n) {
			for j, term := range nearTerms(n) {
				m.Term, m.To = term, 1+(i+j)%2
				f(n, m)
			}
		}
	}
}

func TestKindsOfMessages(t *testing.T) {
	if impl.MsgCopy != 1 || impl.MsgHas != 2 || impl.MsgJoin != 3 || impl.MsgJoined != 4 {
		t.Error(impl.MsgCopy, impl.MsgHas, impl.MsgJoin, impl.MsgJoined)
	}
}

// P56, P63, P66: of MsgCopy, a node of the same term that does not lead appends the next operation if it is possible, and acknowledges it
// and those that it has; everything else is ignored.
func TestNodeHearCopy(t *testing.T) {
	appended, had, other := 0, 0, 0
	eachMsg(copies, func(n impl.Node, m impl.Msg) {
		switch out, ok := checkHear(t, n, m); {
		case !ok:
			other++
		case len(out.Ops) > len(n.Ops):
			appended++
		default:
			had++
		}
	})
	if appended < 200 || had < 100 || other < 1000 {
		t.Error("too few of a kind:", appended, had, other)
	}
}

// P57, P63: of MsgJoin with a later term, or with the same one where the node does not lead, the node has the operations then
// if the term is later or they are more, and does not lead; it reports their number.
func TestNodeHearJoin(t *testing.T) {
	adopted, reported, ignored := 0, 0, 0
	eachMsg(joins, func(n impl.Node, m impl.Msg) {
		switch out, ok := checkHear(t, n, m); {
		case !ok:
			ignored++
		case !sameNode(out, n):
			adopted++
		default:
			reported++
		}
	})
	if adopted < 500 || reported < 100 || ignored < 500 {
		t.Error("too few of a kind:", adopted, reported, ignored)
	}
}

// P56, P57: the other two kinds are not answered, and change nothing.
func TestNodeHearOfOtherKinds(t *testing.T) {
	eachMsg(func(impl.Node) []impl.Msg { return counts() }, func(n impl.Node, m impl.Msg) {
		out, answer, ok := impl.NodeHear(n, m.To, m)
		checkNode(t, "other kinds", out, answer, ok, n, impl.Msg{}, false)
	})
}

// checkGiven lets either node hear a message that is to none yet; an answer of kind 0 is none.
func checkGiven(t *testing.T, what string, before impl.Node, m impl.Msg, after impl.Node, kind, n int) {
	t.Helper()
	for id, other := range map[int]int{1: 2, 2: 1} {
		m.To = id
		answer := impl.Msg{}
		if kind != 0 {
			answer = impl.Msg{Kind: kind, To: other, Term: after.Term, N: n}
		}
		out, got, ok := impl.NodeHear(before, id, m)
		checkNode(t, what, out, got, ok, after, answer, kind != 0)
	}
}

// P56, P59, P66: messages with one operation, by hand.
func TestNodeHearCopyOfGivenMessages(t *testing.T) {
	ops := opsOf("make A 2", "write A 1 a", "clone A B")
	full := fullOps()
	lead := role{up: true, leads: true, alone: true}
	for _, c := range []struct {
		what       string
		r          role
		term, at   int
		before     []impl.Op
		n          int
		text       string
		taken, has bool
	}{
		{"the first one", follower, 1, 1, nil, 1, "make A 2", true, true},
		{"the next one", follower, 1, 1, ops[:1], 2, "write A 1 a", true, true},
		{"the next one, another one than was sent", follower, 4, 4, ops[:1], 2, "free A 0", true, true},
		{"at the least term", follower, 0, 0, ops, 4, "gone B", true, true},
		{"at the greatest term", follower, 99, 99, ops, 4, "gone B", true, true},
		{"the last one that may be", follower, 1, 1, full[:19], 20, "write A 0 aa", true, true},
		{"the last but one", follower, 1, 1, full[:18], 19, "write B 0 dcba", true, true},
		{"one that it has", follower, 1, 1, ops, 1, "make A 2", false, true},
		{"the last one that it has", follower, 1, 1, ops, 3, "clone A B", false, true},
		{"the last of 20", follower, 1, 1, full, 20, "write A 0 aa", false, true},
		{"the first of 20", follower, 1, 1, full, 1, "make A 2", false, true},
		{"another one with its number", follower, 1, 1, ops, 1, "make A 1", false, false},
		{"another one with the last number", follower, 1, 1, ops, 3, "clone A C", false, false},
		{"another one that differs in its text", follower, 1, 1, ops, 2, "write A 1 b", false, false},
		{"another one with number 20", follower, 1, 1, full, 20, "write A 0 ab", false, false},
		{"one that it has, with another number", follower, 1, 1, ops, 2, "make A 2", false, false},
		{"one that it has, with the next number", follower, 1, 1, ops, 4, "make A 2", false, false},
		{"the next one, not possible", follower, 1, 1, ops[:1], 2, "make A 2", false, false},
		{"the first one, not possible", follower, 1, 1, nil, 1, "gone A", false, false},
		{"the next one, no room", follower, 1, 1, roomOps(), 11, "write A 2 dddd", false, false},
		{"the 20th, not possible", follower, 1, 1, full[:19], 20, "clone B C", false, false},
		{"one beyond the next one", follower, 1, 1, nil, 2, "make A 2", false, false},
		{"one beyond the next one of some", follower, 1, 1, ops, 5, "gone A", false, false},
		{"one far beyond", follower, 1, 1, ops, 20, "gone A", false, false},
		{"at an elder term", follower, 3, 2, ops, 4, "gone A", false, false},
		{"one that it has, at an elder term", follower, 3, 2, ops, 3, "clone A B", false, false},
		{"at a later term", follower, 1, 2, ops, 4, "gone A", false, false},
		{"one that it has, at a later term", follower, 1, 2, ops, 3, "clone A B", false, false},
		{"to a leader", leader, 1, 1, ops, 4, "gone A", false, false},
		{"one that a leader has", leader, 1, 1, ops, 3, "clone A B", false, false},
		{"to one that leads alone", lead, 1, 1, nil, 1, "make A 2", false, false},
		{"to a leader, later", leader, 1, 2, ops, 4, "gone A", false, false},
		{"to a leader, elder", leader, 2, 1, ops, 4, "gone A", false, false},
	} {
		o := opsOf(c.text)[0]
		before, kind := nodeOf(c.r, c.term, c.before), 0
		after := before
		if c.taken {
			after.Ops = and(c.before, o)
		}
		if c.has {
			kind = impl.MsgHas
		}
		checkGiven(t, c.what, before, impl.Msg{Kind: impl.MsgCopy, Term: c.at, N: c.n, Op: o}, after, kind, c.n)
	}
}

// P57: messages with all operations, by hand.
func TestNodeHearJoinOfGivenMessages(t *testing.T) {
	ops := opsOf("make A 2", "write A 1 a", "clone A B")
	others := opsOf("make D 6", "gone D", "make D 5")
	lead := role{up: true, leads: true, alone: true}
	for _, c := range []struct {
		what             string
		r                role
		term, at         int
		before, ops      []impl.Op
		adopts, reported bool
	}{
		{"a later term", follower, 0, 1, nil, nil, true, true},
		{"a later term, more", follower, 0, 1, ops[:1], ops, true, true},
		{"a later term, as many", follower, 1, 2, ops, others, true, true},
		{"a later term, fewer", follower, 1, 2, ops, others[:1], true, true},
		{"a later term, none", follower, 1, 2, ops, nil, true, true},
		{"a much later term", follower, 0, 99, fullOps(), others, true, true},
		{"a later term, 20", follower, 98, 99, ops, fullOps(), true, true},
		{"a later term at a leader", leader, 1, 2, ops, others, true, true},
		{"a later term at a leader, fewer", leader, 1, 2, ops, others[:2], true, true},
		{"a later term at one that leads alone", lead, 1, 2, ops, nil, true, true},
		{"a later term at one that leads alone, more", lead, 1, 99, nil, fullOps(), true, true},
		{"the same term, more", follower, 1, 1, ops[:2], ops, true, true},
		{"the same term, more, others", follower, 0, 0, ops[:2], others, true, true},
		{"the same term, the first ones", follower, 99, 99, nil, ops, true, true},
		{"the same term, 20", follower, 1, 1, fullOps()[:19], fullOps(), true, true},
		{"the same term, as many", follower, 1, 1, ops, ops, false, true},
		{"the same term, as many others", follower, 1, 1, ops, others, false, true},
		{"the same term, 20 at one that has 20", follower, 1, 1, fullOps(), fullOps(), false, true},
		{"the same term, fewer", follower, 1, 1, ops, ops[:2], false, true},
		{"the same term, fewer others", follower, 1, 1, ops, others[:1], false, true},
		{"the same term, none", follower, 1, 1, ops, nil, false, true},
		{"the same term, none at one that has none", follower, 0, 0, nil, nil, false, true},
		{"the same term at a leader, more", leader, 1, 1, ops[:1], ops, false, false},
		{"the same term at a leader, as many", leader, 1, 1, ops, ops, false, false},
		{"the same term at a leader, fewer", leader, 1, 1, ops, nil, false, false},
		{"the same term at one that leads alone", lead, 1, 1, nil, ops, false, false},
		{"an elder term, more", follower, 1, 0, ops[:1], ops, false, false},
		{"an elder term, as many", follower, 2, 1, ops, ops, false, false},
		{"an elder term, fewer", follower, 99, 98, ops, nil, false, false},
		{"an elder term at a leader, more", leader, 2, 1, nil, ops, false, false},
		{"an elder term at one that leads alone", lead, 99, 0, nil, fullOps(), false, false},
	} {
		before, kind := nodeOf(c.r, c.term, c.before), 0
		after := before
		if c.adopts {
			after = nodeOf(follower, c.at, c.ops)
		}
		if c.reported {
			kind = impl.MsgJoined
		}
		checkGiven(t, c.what, before, impl.Msg{Kind: impl.MsgJoin, Term: c.at, N: len(c.ops), Ops: c.ops}, after, kind, len(after.Ops))
	}
}

// P58: a message of an earlier term changes nothing and is not answered, whatever it is and whatever the node is.
func TestNodeHearOfAnElderTerm(t *testing.T) {
	elder := 0
	eachMsg(func(n impl.Node) []impl.Msg { return slices.Concat(copies(n), joins(n), counts()) }, func(n impl.Node, m impl.Msg) {
		if m.Term < n.Term {
			out, answer, ok := impl.NodeHear(n, m.To, m)
			checkNode(t, "an elder term", out, answer, ok, n, impl.Msg{}, false)
			elder++
		}
	})
	if elder < 1000 {
		t.Error("too few are elder:", elder)
	}
}

// P59: after a MsgCopy of its own term the operations of a node start with those that it had, and there is at most one more.
func TestNodeHearCopyKeepsOperations(t *testing.T) {
	eachMsg(copies, func(n impl.Node, m impl.Msg) {
		out, _, _ := impl.NodeHear(n, m.To, m)
		if had := len(n.Ops); len(out.Ops) < had || len(out.Ops) > had+1 || !slices.Equal(out.Ops[:had], n.Ops) {
			t.Fatalf("%v: %v", n, out)
		}
	})
}
