package tests

import (
	"math"
	"slices"
	"strconv"
	"testing"

	"loop.example/garner/impl"
)

// termMax is the greatest term.
const termMax = 99

// role is what a node is, apart from its term and its operations.
type role struct{ up, leads, alone bool }

// roles are all that a valid node may be.
func roles() []role {
	return []role{{true, false, false}, {true, true, false}, {true, true, true}, {false, false, false}, {false, true, false}, {false, true, true}}
}

// The two roles that most messages are about.
var (
	follower = role{up: true}
	leader   = role{up: true, leads: true}
)

func nodeOf(r role, term int, ops []impl.Op) impl.Node {
	return impl.Node{Up: r.up, Term: term, Leads: r.leads, Alone: r.alone, Ops: ops}
}

// nodeCopy shares no memory with n.
func nodeCopy(n impl.Node) impl.Node {
	n.Ops = slices.Clone(n.Ops)
	return n
}

func sameNode(a, b impl.Node) bool {
	return a.Up == b.Up && a.Term == b.Term && a.Leads == b.Leads && a.Alone == b.Alone && slices.Equal(a.Ops, b.Ops)
}

func zeroNode(n impl.Node) bool {
	return sameNode(n, impl.Node{})
}

func sameMsg(a, b impl.Msg) bool {
	return a.Kind == b.Kind && a.To == b.To && a.Term == b.Term && a.N == b.N && a.Op == b.Op && slices.Equal(a.Ops, b.Ops)
}

func zeroMsg(m impl.Msg) bool {
	return sameMsg(m, impl.Msg{})
}

// possible tells whether operations are possible one after the other, from a new pool on.
func possible(ops []impl.Op) bool {
	_, ok := poolAfter(poolOf(nil), ops)
	return ok
}

// and are operations with one more, in memory of their own.
func and(ops []impl.Op, o impl.Op) []impl.Op {
	return append(slices.Clone(ops), o)
}

// roomOps are operations after which all slots are in use.
func roomOps() []impl.Op {
	ops := []impl.Op{makeOp("C", 6), makeOp("A", 3)}
	for i, text := range fullPieces {
		ops = append(ops, writeOp([]string{"C", "A"}[i/6], i%6, text))
	}
	return ops
}

// opLists are lists of operations that are possible: none, some, LogMax.
func opLists() [][]impl.Op {
	out := [][]impl.Op{nil, opsOf("make A 1"), opsOf("make A 2", "write A 1 ab", "clone A B"), roomOps(), fullOps()[:impl.LogMax-1], fullOps()}
	next := numbers(21)
	for _, count := range []int{1, 2, 3, 4, 7, 12, impl.LogMax - 1, impl.LogMax} {
		out = append(out, someLogOps(poolOf(nil), count, next))
	}
	return out
}

// nodes are valid nodes: with each role, with terms from the least to the greatest, without operations, with some, and with LogMax.
func nodes() []impl.Node {
	terms := []int{1, 0, termMax, 2, 57, termMax - 1, 1}
	var out []impl.Node
	for _, ops := range opLists() {
		for _, r := range roles() {
			out = append(out, nodeOf(r, terms[len(out)%len(terms)], ops))
		}
	}
	return out
}

// noTerms are terms that there are not.
func noTerms() []int {
	return []int{-1, -2, -99, math.MinInt, termMax + 1, termMax + 2, 256, 1 << 32, 1<<32 + 1, math.MaxInt}
}

// noNodeIds are numbers of no node.
func noNodeIds() []int {
	return []int{0, 3, -1, -2, 4, 256, 257, 1 << 32, 1<<32 + 1, 1<<32 + 2, math.MinInt, math.MinInt + 1, math.MaxInt, math.MaxInt - 1}
}

// noOpLists are lists of operations that no node and no message has: too many of them, an invalid one, or one that is not possible.
func noOpLists() map[string][]impl.Op {
	further := opsOf("write A 1 a")
	some := opsOf("make A 2", "write A 0 c", "clone A B")
	out := map[string][]impl.Op{
		"21 operations":            append(fullOps(), further...),
		"276 operations":           append(fullOps(), slices.Repeat(further, 256)...),
		"a million operations":     append(fullOps(), slices.Repeat(further, 1000000)...),
		"a volume not there yet":   opsOf("write A 0 c", "make A 2"),
		"a volume there already":   opsOf("make A 2", "make A 2"),
		"a volume gone":            opsOf("make A 2", "gone A", "write A 0 c"),
		"a volume gone twice":      opsOf("make A 2", "gone A", "gone A"),
		"a clone of itself":        opsOf("make A 2", "clone A A"),
		"no such block":            opsOf("make A 2", "write A 2 c"),
		"no room":                  and(roomOps(), writeOp("A", 2, "dddd")),
		"the last is not possible": and(fullOps()[:19], cloneOp("B", "C")),
	}
	for i, o := range noLogOps() {
		for at := range len(some) + 1 {
			out["invalid operation "+strconv.Itoa(i)+" at "+strconv.Itoa(at)] = slices.Insert(slices.Clone(some), at, o)
		}
	}
	return out
}

// noNodes are invalid nodes; but for what makes them invalid, they run and answer.
func noNodes() map[string]impl.Node {
	some := opsOf("make A 2", "write A 0 c", "clone A B")
	out := map[string]impl.Node{
		"alone without leading":      nodeOf(role{up: true, alone: true}, 1, nil),
		"alone, operations":          nodeOf(role{up: true, alone: true}, 1, some),
		"alone, not running":         nodeOf(role{alone: true}, 0, nil),
		"alone at the greatest term": nodeOf(role{up: true, alone: true}, termMax, some),
	}
	for _, term := range noTerms() {
		for i, r := range roles() {
			out["term "+strconv.Itoa(term)+", role "+strconv.Itoa(i)] = nodeOf(r, term, some[:i%4])
		}
	}
	for what, ops := range noOpLists() {
		out[what] = nodeOf(follower, 1, ops)
		out[what+", leading"] = nodeOf(leader, 1, ops)
		out[what+", not running"] = nodeOf(role{}, 1, ops)
	}
	return out
}

// checkNode compares what a function returns for a node with what it must return; the node is valid.
func checkNode(t *testing.T, what string, n impl.Node, m impl.Msg, ok bool, wantN impl.Node, wantM impl.Msg, want bool) {
	t.Helper()
	if !sameNode(n, wantN) || !sameMsg(m, wantM) || ok != want || !impl.NodeOk(n) {
		t.Fatalf("%.60s:\n%v %v %v, not\n%v %v %v", what, n, m, ok, wantN, wantM, want)
	}
}

// P54: exactly nodes 1 and 2 are there at the beginning; node 1 leads a later term alone.
func TestNodeNew(t *testing.T) {
	for id, want := range map[int]impl.Node{
		1: {Up: true, Term: 1, Leads: true, Alone: true},
		2: {Up: true, Term: 0},
	} {
		if n, ok := impl.NodeNew(id); !ok || !sameNode(n, want) || !impl.NodeOk(n) || !samePool(impl.NodePool(n), impl.PoolNew()) {
			t.Errorf("node %d: %v %v", id, n, ok)
		}
	}
	for _, id := range noNodeIds() {
		if n, ok := impl.NodeNew(id); ok || !zeroNode(n) {
			t.Errorf("node %d: %v %v", id, n, ok)
		}
	}
}

// P61: what is a node.
func TestNodeOk(t *testing.T) {
	for _, n := range nodes() {
		if !impl.NodeOk(n) {
			t.Errorf("%v is a node", n)
		}
	}
	if !impl.NodeOk(impl.Node{}) || !impl.NodeOk(impl.Node{Ops: []impl.Op{}}) {
		t.Error("without operations")
	}
}

// P54 to P66: what is no node; no function gives anything for it.
func TestNoNode(t *testing.T) {
	copied := impl.Msg{Kind: impl.MsgCopy, Term: 1, N: 1, Op: makeOp("A", 2)}
	msgs := []impl.Msg{copied, {Kind: impl.MsgHas, Term: 1}, {Kind: impl.MsgJoin, Term: 1}, {Kind: impl.MsgJoin, Term: 2}, {Kind: impl.MsgJoin, Term: termMax}}
	for what, n := range noNodes() {
		if impl.NodeOk(n) {
			t.Errorf("%.60q: no node", what)
		}
		if p := impl.NodePool(n); !zeroPool(p) {
			t.Errorf("%.60q: %v", what, p)
		}
		for id := range 4 {
			for _, o := range append(opsOf("make C 1", "write A 0 d", "make A 1", "gone D"), impl.Op{}) {
				if out, m, ok := impl.NodeAsk(n, id, o); ok || !zeroNode(out) || !zeroMsg(m) {
					t.Errorf("%.60q: ask %v: %v %v %v", what, o, out, m, ok)
				}
			}
			for _, m := range msgs {
				m.To = id
				if out, answer, ok := impl.NodeHear(n, id, m); ok || !zeroNode(out) || !zeroMsg(answer) {
					t.Errorf("%.60q: hear %v: %v %v %v", what, m, out, answer, ok)
				}
			}
		}
	}
}

// P61: with each term, a node is valid exactly if there is such a term.
func TestNodeOkOfAnyTerm(t *testing.T) {
	for _, r := range roles() {
		for term := -3; term <= termMax+3; term++ {
			if got := impl.NodeOk(nodeOf(r, term, opsOf("make A 1"))); got != (term >= 0 && term <= termMax) {
				t.Errorf("%v at term %d: %v", r, term, got)
			}
		}
	}
}

// P61: a node is valid running or not, leading or not, but not alone without leading.
func TestNodeOkOfAnyRole(t *testing.T) {
	for _, n := range nodes() {
		for i := range 8 {
			r := role{up: i&1 != 0, leads: i&2 != 0, alone: i&4 != 0}
			if got := impl.NodeOk(nodeOf(r, n.Term, n.Ops)); got != (r.leads || !r.alone) {
				t.Fatalf("%v with %v: %v", r, n, got)
			}
		}
	}
}

// P61: a node stays valid with a prefix of its operations, running or not.
func TestNodeOkOfPrefixes(t *testing.T) {
	for _, n := range nodes() {
		for count := range len(n.Ops) + 1 {
			for _, up := range []bool{true, false} {
				other := n
				other.Up, other.Ops = up, n.Ops[:count]
				if !impl.NodeOk(other) {
					t.Fatalf("the first %d operations of %v, running: %v", count, n, up)
				}
			}
		}
	}
}

// P61: with another operation in place of one a node is valid exactly if all of them are possible, one after the other.
func TestNodeOkOfChangedOperations(t *testing.T) {
	next := numbers(61)
	valid, invalid := 0, 0
	for _, n := range nodes() {
		others := append(someOps(impl.NodePool(n)), noLogOps()...)
		for i := range n.Ops {
			for range 8 {
				other := nodeCopy(n)
				other.Ops[i] = others[next(len(others))]
				want := possible(other.Ops)
				if got := impl.NodeOk(other); got != want {
					t.Fatalf("%v with %v at %d: %v", n, other.Ops[i], i, got)
				}
				if want {
					valid++
				} else {
					invalid++
				}
			}
		}
	}
	if valid < 300 || invalid < 300 {
		t.Error("too few of a kind:", valid, invalid)
	}
}

// P60: the pool is that of a log of the operations on a new pool, whatever else the node is; it is valid.
func TestNodePool(t *testing.T) {
	for _, n := range nodes() {
		want, ok := poolAfter(poolOf(nil), n.Ops)
		checkResult(t, "the pool of a node", impl.NodePool(n), ok, want, true)
		if l := impl.LogPool(logOf(impl.PoolNew(), n.Ops, 0)); !samePool(l, want) {
			t.Fatalf("%v: %v, not %v", n, l, want)
		}
	}
}

// P60: pools of nodes, by hand.
func TestNodePoolOfGivenNodes(t *testing.T) {
	for _, c := range []struct {
		ops  []impl.Op
		want string
	}{
		{nil, ""},
		{opsOf("make A 1"), "A -\n"},
		{opsOf("make C 2", "write C 1 ab", "clone C A", "write C 1 d"), "A - ab\nC - d\n"},
		{opsOf("make C 2", "write C 1 ab", "gone C"), ""},
		{roomOps(), "A ac ddd -\nC a b c d ab da\n"},
		{fullOps(), "A aa - ab ab d c\nB dcba\nC dddd - ab - d c\nD dddd - ab - d c\n"},
	} {
		for _, r := range roles() {
			if got := impl.PoolText(impl.NodePool(nodeOf(r, 7, c.ops))); got != c.want {
				t.Errorf("%v: %q, not %q", c.ops, got, c.want)
			}
		}
	}
}

// P55: a node accepts an operation exactly if it runs and leads, has space, and the operation is possible;
// then it is the last one, and a message carries it; otherwise nothing changes.
func TestNodeAsk(t *testing.T) {
	done, not, idle, full := 0, 0, 0, 0
	for _, n := range nodes() {
		p := impl.NodePool(n)
		for i, o := range someOps(p) {
			_, may := impl.OpDo(p, o)
			id := 1 + i%2
			wantN, wantM, want := n, impl.Msg{}, n.Up && n.Leads && len(n.Ops) < impl.LogMax && may
			if want {
				wantN.Ops = and(n.Ops, o)
				wantM = impl.Msg{Kind: impl.MsgCopy, To: 3 - id, Term: n.Term, N: len(n.Ops) + 1, Op: o}
			}
			out, m, ok := impl.NodeAsk(n, id, o)
			checkNode(t, "asked for "+impl.OpText(o), out, m, ok, wantN, wantM, want)
			switch {
			case ok:
				done++
			case !may:
				not++
			case len(n.Ops) == impl.LogMax:
				full++
			default:
				idle++
			}
		}
	}
	if done < 200 || not < 200 || idle < 200 || full < 100 {
		t.Error("too few of a kind:", done, not, idle, full)
	}
}

// P55: operations accepted by hand, by either node, alone or not.
func TestNodeAskStepByStep(t *testing.T) {
	for id := 1; id <= 2; id++ {
		for _, alone := range []bool{true, false} {
			n := nodeOf(role{up: true, leads: true, alone: alone}, 8, nil)
			var ops []impl.Op
			for _, c := range []struct {
				text, want string
				ok         bool
			}{
				{"write A 0 a", "", false},
				{"make A 2", "A - -\n", true},
				{"make A 2", "A - -\n", false},
				{"write A 2 a", "A - -\n", false},
				{"write A 1 a", "A - a\n", true},
				{"clone B A", "A - a\n", false},
				{"clone A B", "A - a\nB - a\n", true},
				{"gone A", "B - a\n", true},
				{"gone A", "B - a\n", false},
				{"free B 1", "B - -\n", true},
			} {
				o := opsOf(c.text)[0]
				wantM := impl.Msg{}
				if c.ok {
					ops = append(ops, o)
					wantM = impl.Msg{Kind: 1, To: map[int]int{1: 2, 2: 1}[id], Term: 8, N: len(ops), Op: o}
				}
				out, m, ok := impl.NodeAsk(n, id, o)
				checkNode(t, c.text, out, m, ok, impl.Node{Up: true, Term: 8, Leads: true, Alone: alone, Ops: ops}, wantM, c.ok)
				if got := impl.PoolText(impl.NodePool(out)); got != c.want {
					t.Fatalf("%s: %q, not %q", c.text, got, c.want)
				}
				n = out
			}
		}
	}
}

// P65: an operation that a node accepts is not accepted by the same node if it does not run or does not lead;
// nor is the operation with a field that makes it invalid. The node is unchanged then.
func TestNodeAskNotAccepted(t *testing.T) {
	accepted := 0
	for _, n := range nodes() {
		for _, o := range someOps(impl.NodePool(n)) {
			if _, _, ok := impl.NodeAsk(n, 1, o); !ok {
				continue
			}
			accepted++
			down, follows := n, n
			down.Up = false
			follows.Leads, follows.Alone = false, false
			for _, other := range []impl.Node{down, follows} {
				out, m, ok := impl.NodeAsk(other, 1, o)
				checkNode(t, "not accepted", out, m, ok, other, impl.Msg{}, false)
			}
			wrong := []impl.Op{o, o, o, o}
			wrong[0].Kind, wrong[1].Kind, wrong[2].Name, wrong[3].N = 0, 5, "E", -1
			for _, o := range wrong {
				out, m, ok := impl.NodeAsk(n, 1, o)
				checkNode(t, "invalid", out, m, ok, n, impl.Msg{}, false)
			}
		}
	}
	if accepted < 200 {
		t.Error("too few are accepted:", accepted)
	}
}

// P65: an invalid operation is not accepted, also where the node has no space, and leaves the node unchanged.
func TestNodeAskOfInvalidOperations(t *testing.T) {
	for _, n := range append(nodes(), nodeOf(leader, 1, opsOf("make A 1"))) {
		for _, o := range noLogOps() {
			out, m, ok := impl.NodeAsk(n, 2, o)
			checkNode(t, "invalid", out, m, ok, n, impl.Msg{}, false)
		}
	}
}

// P55: if there is no such node, there are only zero values, whatever is asked for.
func TestNodeAskOfNoNode(t *testing.T) {
	for _, n := range nodes() {
		for _, id := range noNodeIds() {
			for _, o := range append(opsOf("make A 1", "make D 2", "gone C"), impl.Op{}) {
				if out, m, ok := impl.NodeAsk(n, id, o); ok || !zeroNode(out) || !zeroMsg(m) {
					t.Fatalf("node %d: %v %v %v", id, out, m, ok)
				}
			}
		}
	}
}

// P55, P62: LogMax operations are accepted, sent with consecutive numbers from 1 on, and no further one.
func TestNodeAskUntilFull(t *testing.T) {
	for id := 1; id <= 2; id++ {
		for _, alone := range []bool{true, false} {
			n := nodeOf(role{up: true, leads: true, alone: alone}, termMax, nil)
			for i, o := range fullOps() {
				out, m, ok := impl.NodeAsk(n, id, o)
				want := n
				want.Ops = fullOps()[:i+1]
				checkNode(t, "accepted", out, m, ok, want, impl.Msg{Kind: impl.MsgCopy, To: 3 - id, Term: termMax, N: i + 1, Op: o}, true)
				n = out
			}
			for _, o := range opsOf("write A 1 a", "gone D", "make A 1") {
				out, m, ok := impl.NodeAsk(n, id, o)
				checkNode(t, "full", out, m, ok, n, impl.Msg{}, false)
			}
		}
	}
}

// P62: of two operations that any node accepts, the second one has the next number, also if another one is refused in between.
func TestNodeAskTwice(t *testing.T) {
	twice := 0
	for _, n := range nodes() {
		for _, o := range someOps(impl.NodePool(n)) {
			one, m, ok := impl.NodeAsk(n, 2, o)
			if !ok {
				continue
			}
			between, _, _ := impl.NodeAsk(one, 2, makeOp(o.Name, 7))
			two, next, ok := impl.NodeAsk(between, 2, writeOp(o.Name, 0, "aa"))
			if !ok {
				continue
			}
			twice++
			if next.N != m.N+1 || m.N != len(one.Ops) || next.N != len(two.Ops) {
				t.Fatalf("%v: %v and %v", n, m, next)
			}
		}
	}
	if twice < 100 {
		t.Error("too few are accepted:", twice)
	}
}
