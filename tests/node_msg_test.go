package tests

import (
	"math"
	"slices"
	"strconv"
	"testing"

	"loop.example/garner/impl"
)

// badMsgs are invalid messages; but for what makes each of them invalid, a node that does not lead would answer it,
// or at least be left unchanged.
func badMsgs(to int) map[string]impl.Msg {
	ops := opsOf("make A 2", "write A 1 a", "clone A B")
	copied := impl.Msg{Kind: impl.MsgCopy, To: to, Term: 2, N: 1, Op: ops[0]}
	has := impl.Msg{Kind: impl.MsgHas, To: to, Term: 2, N: 3}
	join := impl.Msg{Kind: impl.MsgJoin, To: to, Term: 2, N: 3, Ops: ops}
	joined := impl.Msg{Kind: impl.MsgJoined, To: to, Term: 2, N: 3}
	out := map[string]impl.Msg{"the zero value": {}, "to a node": {To: to}, "of a term": {To: to, Term: 2}}
	with := func(what string, m impl.Msg, change func(m *impl.Msg)) {
		change(&m)
		out[strconv.Itoa(m.Kind)+": "+what] = m
	}
	for kind, m := range map[int]impl.Msg{1: copied, 2: has, 3: join, 4: joined} {
		for _, other := range []int{0, -1, 5, 256 + kind, 1<<32 + kind, -kind, math.MinInt} {
			what := "instead of " + strconv.Itoa(kind)
			with(what, m, func(m *impl.Msg) { m.Kind = other })
		}
		for _, term := range noTerms() {
			with("term "+strconv.Itoa(term), m, func(m *impl.Msg) { m.Term = term })
		}
		for _, n := range []int{-1, -3, math.MinInt, 21, 22, 256 + 3, 1<<32 + 3, math.MaxInt} {
			with("number "+strconv.Itoa(n), m, func(m *impl.Msg) { m.N = n })
		}
		if kind != impl.MsgCopy {
			badOp(m, with)
		}
		if kind != impl.MsgJoin {
			for _, count := range []int{1, 3, 20, 1000000} {
				with(strconv.Itoa(count)+" operations", m, func(m *impl.Msg) { m.Ops = slices.Repeat(ops[:1], count) })
			}
			with("as many operations as the number", m, func(m *impl.Msg) { m.Ops = ops[:m.N] })
		}
	}
	with("number 0", copied, func(m *impl.Msg) { m.N = 0 })
	for i, o := range noLogOps() {
		with("operation "+strconv.Itoa(i), copied, func(m *impl.Msg) { m.Op = o })
	}
	for n := range impl.LogMax + 1 {
		if n != join.N {
			with("with 3 operations, number "+strconv.Itoa(n), join, func(m *impl.Msg) { m.N = n })
		}
	}
	for what, list := range noOpLists() {
		with(what, join, func(m *impl.Msg) { m.N, m.Ops = len(list), list })
		with(what+", number 20", join, func(m *impl.Msg) { m.N, m.Ops = 20, list })
	}
	return out
}

// badOp gives a message with an operation, or with one field of it.
func badOp(m impl.Msg, with func(what string, m impl.Msg, change func(m *impl.Msg))) {
	with("an operation", m, func(m *impl.Msg) { m.Op = makeOp("A", 2) })
	with("a kind of operation", m, func(m *impl.Msg) { m.Op.Kind = impl.OpWrite })
	with("a volume", m, func(m *impl.Msg) { m.Op.Name = "A" })
	with("a clone", m, func(m *impl.Msg) { m.Op.To = "B" })
	with("a number of blocks", m, func(m *impl.Msg) { m.Op.N = 1 })
	with("a piece", m, func(m *impl.Msg) { m.Op.Text = "a" })
}

// P64: an invalid message gives only zero values.
func TestNodeHearOfInvalidMessages(t *testing.T) {
	ops := opsOf("make A 2", "write A 1 a", "clone A B")
	for id := 1; id <= 2; id++ {
		for what, m := range badMsgs(id) {
			for _, term := range []int{0, 1, 2, 3} {
				for _, n := range []impl.Node{nodeOf(follower, term, nil), nodeOf(follower, term, ops), nodeOf(leader, term, ops), nodeOf(follower, term, fullOps())} {
					if out, answer, ok := impl.NodeHear(n, id, m); ok || !zeroNode(out) || !zeroMsg(answer) {
						t.Fatalf("%.60s: %v %v %v", what, out, answer, ok)
					}
				}
			}
		}
	}
}

// P64: each message that the invalid ones differ from is valid, as are those at the limits: the node is there, answering or not.
func TestNodeHearOfValidMessages(t *testing.T) {
	full := fullOps()
	for _, c := range []struct {
		m    impl.Msg
		want bool
	}{
		{impl.Msg{Kind: impl.MsgCopy, Term: 0, N: 1, Op: makeOp("A", 2)}, false},
		{impl.Msg{Kind: impl.MsgCopy, Term: 2, N: 1, Op: makeOp("A", 2), Ops: []impl.Op{}}, true},
		{impl.Msg{Kind: impl.MsgCopy, Term: 2, N: 2, Op: goneOp("C")}, false},
		{impl.Msg{Kind: impl.MsgCopy, Term: 2, N: 20, Op: cloneOp("A", "A")}, false},
		{impl.Msg{Kind: impl.MsgCopy, Term: 99, N: 20, Op: makeOp("A", 2)}, false},
		{impl.Msg{Kind: impl.MsgHas, Term: 0, N: 0}, false},
		{impl.Msg{Kind: impl.MsgHas, Term: 99, N: 20, Ops: []impl.Op{}}, false},
		{impl.Msg{Kind: impl.MsgHas, Term: 2, N: 3}, false},
		{impl.Msg{Kind: impl.MsgJoin, Term: 0, N: 0}, false},
		{impl.Msg{Kind: impl.MsgJoin, Term: 2, N: 0, Ops: []impl.Op{}}, true},
		{impl.Msg{Kind: impl.MsgJoin, Term: 99, N: 0}, true},
		{impl.Msg{Kind: impl.MsgJoin, Term: 99, N: 20, Ops: full}, true},
		{impl.Msg{Kind: impl.MsgJoin, Term: 2, N: 1, Ops: full[:1]}, true},
		{impl.Msg{Kind: impl.MsgJoined, Term: 0, N: 0}, false},
		{impl.Msg{Kind: impl.MsgJoined, Term: 99, N: 20}, false},
		{impl.Msg{Kind: impl.MsgJoined, Term: 2, N: 3}, false},
	} {
		for id := 1; id <= 2; id++ {
			m := c.m
			m.To = id
			if out, _, ok := impl.NodeHear(nodeOf(follower, 2, nil), id, m); ok != c.want || !out.Up || !impl.NodeOk(out) {
				t.Errorf("%v: %v %v", m, out, ok)
			}
		}
	}
}

// P58, P64: a message to the other node, a number that is no node, and a node that is not running give only zero values.
func TestNodeHearNotDelivered(t *testing.T) {
	check := func(what string, n impl.Node, id int, m impl.Msg) {
		t.Helper()
		if out, answer, ok := impl.NodeHear(n, id, m); ok || !zeroNode(out) || !zeroMsg(answer) {
			t.Fatalf("%s, node %d, %v: %v %v %v", what, id, m, out, answer, ok)
		}
	}
	msgs := func(n impl.Node) []impl.Msg {
		all := slices.Concat(copies(n), joins(n), counts())
		return []impl.Msg{all[0], all[len(all)/3], all[len(all)/2], all[len(all)-1], all[len(all)-2]}
	}
	eachMsg(msgs, func(n impl.Node, m impl.Msg) {
		check("to the other node", n, 3-m.To, m)
		down := n
		down.Up = false
		check("not running", down, m.To, m)
		for _, id := range noNodeIds() {
			check("no node", n, id, m)
			other := m
			other.To = id
			check("to no node", n, id, other)
			check("to no node", n, m.To, other)
		}
	})
}

// walkNodes lets two nodes ask, fall, rise, lead and hear what was sent of late; it counts the answers to each kind.
func walkNodes(t *testing.T, next func(int) int, answered map[int]int) {
	one, _ := impl.NodeNew(1)
	two, _ := impl.NodeNew(2)
	both := []impl.Node{one, two}
	sent := []impl.Msg{{Kind: impl.MsgJoin, To: 2, Term: 1}}
	for range 300 {
		i := next(2)
		n := both[i]
		switch pick := next(30); {
		case pick < 2:
			n.Up = !n.Up || pick == 1
		case pick == 2:
			n = nodeOf(leader, n.Term+next(2), n.Ops[:len(n.Ops)-len(n.Ops)/4])
			sent = append(sent, impl.Msg{Kind: impl.MsgJoin, To: 2 - i, Term: n.Term, N: len(n.Ops), Ops: n.Ops})
		case pick < 12:
			ops := someOps(impl.NodePool(n))
			out, m, ok := impl.NodeAsk(n, i+1, ops[next(len(ops))])
			if ok {
				sent = append(sent, m)
			}
			n = out
		default:
			m := sent[len(sent)-1-next(min(len(sent), 10))]
			if m.To == i+1 && n.Up {
				var ok bool
				if n, ok = checkHear(t, n, m); ok {
					answered[m.Kind]++
				}
			}
		}
		if !impl.NodeOk(n) {
			t.Fatalf("%v is no node", n)
		}
		both[i] = n
	}
}

// P55 to P59, P62, P63: on long walks of two nodes all that they hear does what it must do, also what is heard late or again.
func TestNodeWalk(t *testing.T) {
	next := numbers(63)
	answered := map[int]int{}
	for range 80 {
		walkNodes(t, next, answered)
	}
	if answered[impl.MsgCopy] < 200 || answered[impl.MsgJoin] < 200 {
		t.Error("the walks are poor:", answered)
	}
}

// roomyOps is a copy of operations with further ones behind its end, which a function must neither read nor write.
func roomyOps(ops []impl.Op) []impl.Op {
	long := append(slices.Clone(ops), slices.Repeat(opsOf("make D 6"), 2*impl.LogMax)...)
	return long[:len(ops)]
}

// scratchOps writes to all the memory of operations.
func scratchOps(ops []impl.Op) {
	all := ops[:cap(ops)]
	for i := range all {
		all[i] = impl.Op{Kind: -1, Name: "scratch"}
	}
}

// nodeResult is what a function returns for a node.
type nodeResult struct {
	n  impl.Node
	m  impl.Msg
	ok bool
}

func sameResult(a, b nodeResult) bool {
	return sameNode(a.n, b.n) && sameMsg(a.m, b.m) && a.ok == b.ok
}

// nodeResults are what the functions return for a node, a message to it, and operations of each kind.
func nodeResults(n impl.Node, m impl.Msg) []nodeResult {
	result := func(n impl.Node, m impl.Msg, ok bool) nodeResult { return nodeResult{n, m, ok} }
	fresh, _ := impl.NodeNew(1)
	out := []nodeResult{{n: fresh}, result(impl.NodeHear(n, m.To, m)), result(impl.NodeHear(n, 3-m.To, m))}
	for _, o := range append(opsOf("make A 1", "make D 6", "write A 0 a", "clone A C", "gone D"), impl.Op{}) {
		out = append(out, result(impl.NodeAsk(n, 1, o)))
	}
	return out
}

// checkMemory compares what the functions return with what they return when results that they returned before have been written to.
func checkMemory(t *testing.T, n impl.Node, m impl.Msg) {
	t.Helper()
	arg, msg := n, m
	arg.Ops, msg.Ops = roomyOps(n.Ops), roomyOps(m.Ops)
	wholeArg, wholeMsg := arg.Ops[:cap(arg.Ops)], msg.Ops[:cap(msg.Ops)]
	wantArg, wantMsg := slices.Clone(wholeArg), slices.Clone(wholeMsg)
	want := nodeResults(nodeCopy(n), m)
	one, two := nodeResults(arg, msg), nodeResults(arg, msg)
	for i := range one {
		if !sameResult(one[i], want[i]) {
			t.Fatalf("%v, %v: result %d is %v, not %v", n, m, i, one[i], want[i])
		}
		scratchOps(one[i].n.Ops)
		if !sameMsg(one[i].m, want[i].m) {
			t.Fatalf("%v, %v: result %d shares memory with its message", n, m, i)
		}
		scratchOps(one[i].m.Ops)
	}
	for i := range two {
		if !sameResult(two[i], want[i]) {
			t.Fatalf("%v, %v: result %d shares memory with another one", n, m, i)
		}
	}
	p, before := impl.NodePool(arg), impl.NodePool(n)
	if !samePool(p, before) || scratchPool(p) || impl.NodeOk(arg) != impl.NodeOk(n) || !samePool(impl.NodePool(arg), before) {
		t.Fatalf("%v: %v, not %v", n, p, before)
	}
	if !slices.Equal(wholeArg, wantArg) || !slices.Equal(wholeMsg, wantMsg) {
		t.Fatalf("%v, %v: an argument is changed", n, m)
	}
}

// General rule: no function changes the node or the message that it is given, nor what lies behind their ends, and no result shares memory
// with them, with another result, or with the message that is returned.
func TestNodeSharesNoMemory(t *testing.T) {
	for i, n := range upNodes() {
		msgs := slices.Concat(copies(n), joins(n), counts())
		for j, m := range msgs {
			if (i+j)%7 == 0 {
				m.To, m.Term = 1+j%2, nearTerms(n)[j%2]
				checkMemory(t, n, m)
			}
		}
	}
	ops := opsOf("make A 2", "write A 1 a", "clone A B")
	for _, m := range badMsgs(2) {
		if len(m.Ops) <= 2*impl.LogMax {
			checkMemory(t, nodeOf(follower, 1, ops), m)
		}
	}
	for _, n := range noNodes() {
		if len(n.Ops) <= 2*impl.LogMax {
			checkMemory(t, n, impl.Msg{Kind: impl.MsgJoin, To: 2, Term: 1, N: 3, Ops: ops})
		}
	}
}
