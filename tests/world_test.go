package tests

import (
	"math"
	"slices"
	"strconv"
	"testing"

	"loop.example/garner/impl"
)

// worldOf is a run whose leader, with number lead, and other node are these; the current term is that of the leader.
func worldOf(lead int, both bool, leads, other impl.Node, done []impl.Op, nets ...impl.Msg) impl.World {
	w := impl.World{Nodes: []impl.Node{leads, other}, Term: leads.Term, Lead: lead, Both: both, Nets: nets, Done: done}
	if lead == 2 {
		slices.Reverse(w.Nodes)
	}
	return w
}

// worldCopy shares no memory with w.
func worldCopy(w impl.World) impl.World {
	w.Nodes, w.Nets, w.Done = slices.Clone(w.Nodes), slices.Clone(w.Nets), slices.Clone(w.Done)
	for i := range w.Nodes {
		w.Nodes[i] = nodeCopy(w.Nodes[i])
	}
	for i := range w.Nets {
		w.Nets[i].Ops = slices.Clone(w.Nets[i].Ops)
	}
	return w
}

func sameNodes(a, b []impl.Node) bool {
	return slices.EqualFunc(a, b, sameNode)
}

func sameMsgs(a, b []impl.Msg) bool {
	return slices.EqualFunc(a, b, sameMsg)
}

func sameWorld(a, b impl.World) bool {
	return sameNodes(a.Nodes, b.Nodes) && a.Term == b.Term && a.Lead == b.Lead && a.Both == b.Both && sameMsgs(a.Nets, b.Nets) && slices.Equal(a.Done, b.Done)
}

func zeroWorld(w impl.World) bool {
	return sameWorld(w, impl.World{})
}

// sidesOf are the leader of a run and the other node, which can be changed there.
func sidesOf(w impl.World) (*impl.Node, *impl.Node) {
	return &w.Nodes[w.Lead-1], &w.Nodes[2-w.Lead]
}

func copyMsg(to, term, n int, o impl.Op) impl.Msg {
	return impl.Msg{Kind: impl.MsgCopy, To: to, Term: term, N: n, Op: o}
}

func hasMsg(to, term, n int) impl.Msg {
	return impl.Msg{Kind: impl.MsgHas, To: to, Term: term, N: n}
}

func joinMsg(to, term int, ops []impl.Op) impl.Msg {
	return impl.Msg{Kind: impl.MsgJoin, To: to, Term: term, N: len(ops), Ops: ops}
}

func joinedMsg(to, term, n int) impl.Msg {
	return impl.Msg{Kind: impl.MsgJoined, To: to, Term: term, N: n}
}

// worldOps are five operations that a leader may have.
func worldOps() []impl.Op {
	return opsOf("make A 2", "write A 0 a", "clone A B", "write B 1 b", "free A 0")
}

// strayOps are what a previous leader may have instead: the first two are the same.
func strayOps() []impl.Op {
	return opsOf("make A 2", "write A 0 a", "write A 0 c", "gone A", "make C 1")
}

// lone and led are what a leader is alone and with the other node.
var (
	lone = role{up: true, leads: true, alone: true}
	led  = role{up: true, leads: true}
)

// bothWorld is a run in which both nodes take part: of four operations the other node has three, and two are acknowledged.
func bothWorld(lead int) impl.World {
	ops := worldOps()
	return worldOf(lead, true, nodeOf(led, 7, ops[:4]), nodeOf(follower, 7, ops[:3]), ops[:2])
}

// joiningWorld is a run whose leader is alone; the other node has the current term and half of the operations.
func joiningWorld(lead int) impl.World {
	ops := worldOps()
	return worldOf(lead, false, nodeOf(lone, 7, ops[:4]), nodeOf(follower, 7, ops[:2]), ops[:4])
}

// strayWorld is a run whose leader is alone; the other node leads an earlier term, and has accepted others since.
func strayWorld(lead int) impl.World {
	return worldOf(lead, false, nodeOf(lone, 7, worldOps()[:4]), nodeOf(led, 5, strayOps()), worldOps()[:4])
}

// aheadWorld is a run whose leader is alone; the other node leads an earlier term, and has accepted one more.
func aheadWorld(lead int) impl.World {
	return worldOf(lead, false, nodeOf(lone, 7, worldOps()[:4]), nodeOf(led, 5, worldOps()), worldOps()[:4])
}

// behindWorld is a run whose leader is alone; the other node follows in an earlier term.
func behindWorld(lead int) impl.World {
	return worldOf(lead, false, nodeOf(lone, 7, worldOps()[:4]), nodeOf(follower, 5, strayOps()), worldOps()[:4])
}

// worldsOf are runs of each form that a run can have.
func worldsOf(lead int) map[string]impl.World {
	return map[string]impl.World{
		"both": bothWorld(lead), "joining": joiningWorld(lead), "stray": strayWorld(lead), "ahead": aheadWorld(lead), "behind": behindWorld(lead),
	}
}

// eachKind is one message of each kind that is correct in a run of each form: of the current term, and of earlier ones.
func eachKind(w impl.World) []impl.Msg {
	lead, other := sidesOf(w)
	to, from := 3-w.Lead, w.Lead
	out := []impl.Msg{
		copyMsg(to, w.Term, 1, lead.Ops[0]), joinMsg(to, w.Term, lead.Ops), copyMsg(to, w.Term, 4, lead.Ops[3]), joinMsg(to, w.Term, nil),
		copyMsg(to, 5, 6, goneOp("A")), joinMsg(to, 6, fullOps()), hasMsg(from, 5, 20), joinedMsg(from, 4, 20), copyMsg(from, 6, 2, goneOp("D")), hasMsg(to, 5, 2),
	}
	if other.Term == w.Term {
		out = append(out, hasMsg(from, w.Term, 2), joinedMsg(from, w.Term, len(other.Ops)))
	}
	return out
}

// checkNoWorld checks that a run is invalid, and that no function gives anything for it.
func checkNoWorld(t *testing.T, what string, w impl.World) {
	t.Helper()
	if impl.WorldOk(w) {
		t.Errorf("%.80s: no run", what)
	}
	for kind := range 11 {
		for _, a := range []int{0, 1, 2, 12} {
			if out := impl.WorldDo(w, impl.Event{Kind: kind, A: a, Op: makeOp("D", 1)}); !zeroWorld(out) {
				t.Errorf("%.80s: event %d: %v", what, kind, out)
			}
		}
	}
	for rounds := -1; rounds <= impl.CalmMax+1; rounds++ {
		if out := impl.WorldCalm(w, rounds); !zeroWorld(out) {
			t.Errorf("%.80s: %d rounds: %v", what, rounds, out)
		}
	}
}

func TestLimitsOfRuns(t *testing.T) {
	if impl.NetMax != 12 || impl.PlayMax != 60 || impl.CalmMax != 5 {
		t.Error(impl.NetMax, impl.PlayMax, impl.CalmMax)
	}
}

func TestKindsOfEvents(t *testing.T) {
	kinds := []int{impl.EvAsk, impl.EvBring, impl.EvLose, impl.EvTwice, impl.EvFall, impl.EvRise, impl.EvTurn, impl.EvAlone, impl.EvJoin}
	if !slices.Equal(kinds, []int{1, 2, 3, 4, 5, 6, 7, 8, 9}) {
		t.Error(kinds)
	}
}

// P68, P82: the run that all others come from.
func TestWorldNew(t *testing.T) {
	want := impl.World{Nodes: []impl.Node{{Up: true, Term: 1, Leads: true, Alone: true}, {Up: true}}, Term: 1, Lead: 1}
	if w := impl.WorldNew(); !sameWorld(w, want) || !impl.WorldOk(w) {
		t.Error(w)
	}
}

// P67, P88: runs of each form are valid, with either leader, with and without messages in transit, and with nodes that run or not.
func TestWorldOk(t *testing.T) {
	for lead := 1; lead <= 2; lead++ {
		for what, w := range worldsOf(lead) {
			for i := range 4 {
				w := worldCopy(w)
				w.Nodes[0].Up, w.Nodes[1].Up = i&1 != 0, i&2 != 0
				if !impl.WorldOk(w) {
					t.Errorf("%s: %v", what, w)
				}
				w.Nets = eachKind(w)
				if len(w.Nets) > impl.NetMax || !impl.WorldOk(w) {
					t.Errorf("%s: %v", what, w)
				}
			}
		}
	}
}

// P88: valid runs at the limits: of terms, of operations, of messages in transit, and of what is acknowledged.
func TestWorldOkAtTheLimits(t *testing.T) {
	ops, full := worldOps(), fullOps()
	for lead := 1; lead <= 2; lead++ {
		for what, w := range map[string]impl.World{
			"term 0":                         worldOf(lead, true, nodeOf(led, 0, nil), nodeOf(follower, 0, nil), nil),
			"term 0, alone":                  worldOf(lead, false, nodeOf(lone, 0, nil), nodeOf(follower, 0, nil), nil),
			"term 99":                        worldOf(lead, true, nodeOf(led, 99, full), nodeOf(follower, 99, full), full),
			"terms 99 and 0":                 worldOf(lead, false, nodeOf(lone, 99, full), nodeOf(led, 0, nil), full),
			"terms 99 and 98":                worldOf(lead, false, nodeOf(lone, 99, nil), nodeOf(led, 98, full), nil),
			"12 messages":                    worldOf(lead, true, nodeOf(led, 9, ops), nodeOf(follower, 9, ops), nil, slices.Repeat([]impl.Msg{joinMsg(3-lead, 9, ops)}, 12)...),
			"both have all":                  worldOf(lead, true, nodeOf(led, 9, ops), nodeOf(follower, 9, ops), ops),
			"nothing is acknowledged":        worldOf(lead, true, nodeOf(led, 9, ops), nodeOf(follower, 9, nil), nil),
			"all of the other one":           worldOf(lead, true, nodeOf(led, 9, ops), nodeOf(follower, 9, ops[:1]), ops[:1]),
			"empty, not nil":                 worldOf(lead, true, nodeOf(led, 9, []impl.Op{}), nodeOf(follower, 9, []impl.Op{}), []impl.Op{}, []impl.Msg{}...),
			"a node of an earlier term, all": worldOf(lead, false, nodeOf(lone, 9, nil), nodeOf(follower, 8, full), nil),
		} {
			if !impl.WorldOk(w) || !sameWorld(impl.WorldDo(w, impl.Event{}), w) || !sameWorld(impl.WorldCalm(w, 0), w) {
				t.Errorf("%s: %v", what, w)
			}
		}
	}
}

// flaw makes a run of a form invalid.
type flaw struct {
	what, form string
	change     func(w *impl.World, lead, other *impl.Node)
}

// flaws are what the document says of the nodes, the leader and the acknowledged operations, one by one.
func flaws() []flaw {
	return slices.Concat(nodeFlaws(), leaderFlaws(), otherFlaws(), doneFlaws())
}

func nodeFlaws() []flaw {
	return []flaw{
		{"no nodes", "both", func(w *impl.World, _, _ *impl.Node) { w.Nodes = nil }},
		{"one node", "both", func(w *impl.World, _, _ *impl.Node) { w.Nodes = w.Nodes[:1] }},
		{"the other one node", "stray", func(w *impl.World, _, _ *impl.Node) { w.Nodes = w.Nodes[1:] }},
		{"three nodes", "both", func(w *impl.World, _, other *impl.Node) { w.Nodes = append(w.Nodes, *other) }},
		{"three nodes, one of them new", "behind", func(w *impl.World, _, _ *impl.Node) { w.Nodes = append(w.Nodes, impl.Node{}) }},
		{"four nodes", "behind", func(w *impl.World, _, _ *impl.Node) { w.Nodes = append(w.Nodes, w.Nodes...) }},
		{"a leader in term 100", "joining", func(w *impl.World, lead, _ *impl.Node) { w.Term, lead.Term = 100, 100 }},
		{"a leader in term -1", "behind", func(w *impl.World, lead, other *impl.Node) { w.Term, lead.Term, other.Term = -1, -1, -2 }},
		{"another node in term -1", "behind", func(_ *impl.World, _, other *impl.Node) { other.Term = -1 }},
		{"a leader with 21 operations", "behind", func(w *impl.World, lead, _ *impl.Node) {
			lead.Ops = append(fullOps(), writeOp("A", 1, "a"))
			w.Done = slices.Clone(lead.Ops)
		}},
		{"a leader with an operation that is not possible", "behind", func(w *impl.World, lead, _ *impl.Node) {
			lead.Ops = append(lead.Ops, makeOp("A", 2))
			w.Done = slices.Clone(lead.Ops)
		}},
		{"another node with an operation that is not possible", "stray", func(_ *impl.World, _, other *impl.Node) { other.Ops = append(other.Ops, goneOp("D")) }},
		{"another node with an invalid operation", "behind", func(_ *impl.World, _, other *impl.Node) { other.Ops[1].To = "B" }},
	}
}

func leaderFlaws() []flaw {
	return []flaw{
		{"the current term is later than the leader's", "joining", func(w *impl.World, _, _ *impl.Node) { w.Term = 8 }},
		{"the current term is later than both nodes'", "both", func(w *impl.World, _, _ *impl.Node) { w.Term = 8 }},
		{"the current term is earlier than the leader's", "behind", func(w *impl.World, _, _ *impl.Node) { w.Term = 6 }},
		{"the leader has an earlier term", "behind", func(_ *impl.World, lead, _ *impl.Node) { lead.Term = 6 }},
		{"the leader has a later term", "behind", func(_ *impl.World, lead, _ *impl.Node) { lead.Term = 8 }},
		{"the leader does not lead", "both", func(_ *impl.World, lead, _ *impl.Node) { lead.Leads = false }},
		{"the leader does not lead, alone no more", "stray", func(_ *impl.World, lead, _ *impl.Node) { lead.Leads, lead.Alone = false, false }},
		{"the leader is alone, but Both is true", "joining", func(w *impl.World, _, other *impl.Node) {
			w.Both, other.Ops = true, slices.Clone(w.Done)
		}},
		{"the leader is alone while Both is true", "both", func(w *impl.World, lead, _ *impl.Node) { lead.Alone, lead.Ops = true, slices.Clone(w.Done) }},
		{"the leader is not alone, but Both is false", "joining", func(_ *impl.World, lead, _ *impl.Node) { lead.Alone = false }},
		{"the leader is not alone while Both is false", "both", func(w *impl.World, _, _ *impl.Node) { w.Both = false }},
		{"the leader is not alone, the other one behind", "behind", func(_ *impl.World, lead, _ *impl.Node) { lead.Alone = false }},
		{"the other node is the recorded leader", "both", func(w *impl.World, _, _ *impl.Node) { w.Lead = 3 - w.Lead }},
		{"the previous leader is the recorded one", "ahead", func(w *impl.World, _, _ *impl.Node) { w.Lead, w.Term = 3-w.Lead, 5 }},
	}
}

func otherFlaws() []flaw {
	ops := worldOps()
	return []flaw{
		{"the other node has a later term", "behind", func(_ *impl.World, _, other *impl.Node) { other.Term = 8 }},
		{"the other node has a later term, but the same operations", "joining", func(_ *impl.World, _, other *impl.Node) { other.Term = 8 }},
		{"the other node has a later term while Both is true", "both", func(_ *impl.World, _, other *impl.Node) { other.Term = 8 }},
		{"the other node has the last term", "stray", func(_ *impl.World, _, other *impl.Node) { other.Term = 99 }},
		{"the other node is alone", "stray", func(_ *impl.World, _, other *impl.Node) { other.Alone = true }},
		{"the other node is alone, with the same operations", "stray", func(_ *impl.World, lead, other *impl.Node) {
			other.Alone, other.Ops = true, slices.Clone(lead.Ops)
		}},
		{"the other node has an elder term while Both is true", "both", func(_ *impl.World, _, other *impl.Node) { other.Term = 6 }},
		{"the other node leads an elder term while Both is true", "both", func(_ *impl.World, _, other *impl.Node) { other.Term, other.Leads = 6, true }},
		{"the other node leads in the current term", "both", func(_ *impl.World, _, other *impl.Node) { other.Leads = true }},
		{"the other node leads in the current term, the leader alone", "joining", func(_ *impl.World, _, other *impl.Node) { other.Leads = true }},
		{"both lead the current term, alone", "joining", func(_ *impl.World, _, other *impl.Node) { other.Leads, other.Alone = true, true }},
		{"the other node has an operation more", "joining", func(_ *impl.World, _, other *impl.Node) { other.Ops = slices.Clone(ops) }},
		{"the other node has an operation more while Both is true", "both", func(_ *impl.World, _, other *impl.Node) { other.Ops = slices.Clone(ops) }},
		{"the other node has another operation", "joining", func(_ *impl.World, _, other *impl.Node) { other.Ops[1].Text = "b" }},
		{"the other node has another operation while Both is true", "both", func(_ *impl.World, _, other *impl.Node) { other.Ops[2].To = "C" }},
		{"the other node has another first operation", "joining", func(_ *impl.World, _, other *impl.Node) { other.Ops = opsOf("make A 3") }},
		{"the previous leader has the current term", "stray", func(_ *impl.World, _, other *impl.Node) { other.Term, other.Leads = 7, false }},
	}
}

func doneFlaws() []flaw {
	ops := worldOps()
	return []flaw{
		{"more is acknowledged than the leader has", "joining", func(w *impl.World, _, _ *impl.Node) { w.Done = slices.Clone(ops) }},
		{"more is acknowledged than the leader has while Both is true", "both", func(w *impl.World, lead, other *impl.Node) {
			other.Ops, w.Done = slices.Clone(lead.Ops), slices.Clone(ops)
		}},
		{"another operation is acknowledged", "both", func(w *impl.World, _, _ *impl.Node) { w.Done[1].Text = "b" }},
		{"another operation is acknowledged, the leader alone", "behind", func(w *impl.World, _, _ *impl.Node) { w.Done[3].Text = "c" }},
		{"an invalid operation is acknowledged", "both", func(w *impl.World, _, _ *impl.Node) { w.Done[0].To = "A" }},
		{"the last operation is not acknowledged, the leader alone", "joining", func(w *impl.World, _, _ *impl.Node) { w.Done = w.Done[:3] }},
		{"no operation is acknowledged, the leader alone", "behind", func(w *impl.World, _, _ *impl.Node) { w.Done = nil }},
		{"the other node has not all that is acknowledged", "both", func(w *impl.World, lead, _ *impl.Node) { w.Done = slices.Clone(lead.Ops) }},
		{"the other node has nothing that is acknowledged", "both", func(_ *impl.World, _, other *impl.Node) { other.Ops = nil }},
		{"a million operations are acknowledged", "both", func(w *impl.World, _, _ *impl.Node) { w.Done = slices.Repeat(w.Done, 500000) }},
		{"13 messages", "both", func(w *impl.World, _, _ *impl.Node) {
			w.Nets = slices.Repeat([]impl.Msg{joinMsg(3-w.Lead, 7, ops[:1])}, 13)
		}},
		{"13 messages of an earlier term", "stray", func(w *impl.World, _, _ *impl.Node) { w.Nets = slices.Repeat([]impl.Msg{hasMsg(w.Lead, 1, 1)}, 13) }},
		{"268 messages", "joining", func(w *impl.World, _, _ *impl.Node) {
			w.Nets = slices.Repeat([]impl.Msg{joinMsg(3-w.Lead, 7, nil)}, 268)
		}},
		{"a million messages", "both", func(w *impl.World, _, _ *impl.Node) {
			w.Nets = slices.Repeat([]impl.Msg{hasMsg(w.Lead, 7, 1)}, 1000000)
		}},
	}
}

// P67, P88: a run is invalid if it fails one condition, whatever it is, with either leader; but for that, it is valid.
func TestNoWorld(t *testing.T) {
	for _, f := range flaws() {
		for lead := 1; lead <= 2; lead++ {
			w := worldCopy(worldsOf(lead)[f.form])
			if !impl.WorldOk(w) {
				t.Fatalf("%s is a run", f.form)
			}
			leads, other := sidesOf(w)
			f.change(&w, leads, other)
			checkNoWorld(t, f.what, w)
		}
	}
	checkNoWorld(t, "the zero value", impl.World{})
}

// P88: a run is invalid if its leader is no node.
func TestNoWorldWithoutALeader(t *testing.T) {
	for lead := 1; lead <= 2; lead++ {
		for form, w := range worldsOf(lead) {
			for _, id := range noNodeIds() {
				w := worldCopy(w)
				w.Lead = id
				checkNoWorld(t, form+", leader "+strconv.Itoa(id), w)
			}
		}
	}
}

// P88: a run is invalid if one of its nodes is.
func TestNoWorldWithAnInvalidNode(t *testing.T) {
	for what, n := range noNodes() {
		if len(n.Ops) > 300 {
			continue
		}
		for lead := 1; lead <= 2; lead++ {
			w := behindWorld(lead)
			leads, _ := sidesOf(w)
			if *leads = n; impl.WorldOk(w) {
				t.Errorf("%.80s as leader: %v", what, w)
			}
			w = behindWorld(lead)
			_, other := sidesOf(w)
			if *other = n; impl.WorldOk(w) || !zeroWorld(impl.WorldDo(w, impl.Event{Kind: impl.EvJoin})) {
				t.Errorf("%.80s as the other node: %v", what, w)
			}
		}
	}
}

// P81, P88: a run is invalid if one message in transit is, to whichever node, also where nothing is said of messages of its term.
func TestNoWorldWithAnInvalidMessage(t *testing.T) {
	for to := 1; to <= 2; to++ {
		for what, m := range badMsgs(to) {
			for lead := 1; lead <= 2; lead++ {
				w := bothWorld(lead)
				w.Nets = append(eachKind(w)[:3], m)
				if impl.WorldOk(w) || !zeroWorld(impl.WorldDo(w, impl.Event{Kind: impl.EvLose, A: 3})) {
					t.Errorf("%.80s to %d, leader %d", what, to, lead)
				}
			}
		}
		for _, id := range noNodeIds() {
			for _, m := range eachKind(bothWorld(to)) {
				w := bothWorld(to)
				m.To = id
				if w.Nets = []impl.Msg{m}; impl.WorldOk(w) || !zeroWorld(impl.WorldCalm(w, 1)) {
					t.Errorf("%v: to no node", m)
				}
			}
		}
	}
}

// transit is a message in a run of a form, and whether it is correct.
type transit struct {
	form string
	m    impl.Msg
	want bool
}

// currentTransits are messages of the current term: the leader is 1, the other node 2.
func currentTransits() []transit {
	ops, others := worldOps(), strayOps()
	changed := func(at int, o impl.Op) []impl.Op {
		out := slices.Clone(ops[:4])
		out[at] = o
		return out
	}
	out := []transit{
		{"both", hasMsg(1, 7, 4), false}, {"both", hasMsg(1, 7, 20), false}, {"both", hasMsg(2, 7, 0), false}, {"both", hasMsg(2, 7, 3), false},
		{"joining", hasMsg(1, 7, 2), true}, {"joining", hasMsg(1, 7, 3), false}, {"joining", hasMsg(1, 7, 4), false}, {"joining", hasMsg(2, 7, 2), false},
		{"stray", hasMsg(1, 7, 0), false}, {"stray", hasMsg(1, 7, 2), false}, {"stray", hasMsg(2, 7, 0), false}, {"ahead", hasMsg(1, 7, 4), false},
		{"behind", hasMsg(1, 7, 0), false}, {"behind", hasMsg(1, 7, 5), false},
		{"both", copyMsg(2, 7, 5, ops[4]), false}, {"both", copyMsg(2, 7, 20, ops[3]), false}, {"both", copyMsg(2, 7, 1, ops[1]), false},
		{"both", copyMsg(2, 7, 2, ops[0]), false}, {"both", copyMsg(2, 7, 4, writeOp("B", 1, "a")), false}, {"both", copyMsg(2, 7, 4, ops[2]), false},
		{"stray", copyMsg(2, 7, 3, others[2]), false}, {"stray", copyMsg(2, 7, 5, others[4]), false},
		{"both", joinMsg(2, 7, ops), false}, {"both", joinMsg(2, 7, changed(3, writeOp("B", 1, "c"))), false},
		{"both", joinMsg(2, 7, changed(0, makeOp("A", 3))), false}, {"both", joinMsg(2, 7, others[:3]), false}, {"both", joinMsg(2, 7, fullOps()), false},
		{"joining", joinMsg(2, 7, ops), false}, {"joining", joinMsg(2, 7, opsOf("make A 3")), false}, {"stray", joinMsg(2, 7, others), false},
		{"ahead", joinMsg(2, 7, ops), false}, {"behind", joinMsg(2, 7, others[:3]), false},
	}
	for n := range 4 {
		out = append(out, transit{"both", hasMsg(1, 7, n), true})
	}
	for form := range worldsOf(1) {
		for n := range 5 {
			out = append(out, transit{form, joinMsg(2, 7, ops[:n]), true}, transit{form, joinMsg(1, 7, ops[:n]), false})
			out = append(out, transit{form, copyMsg(2, 7, n+1, ops[n]), n < 4}, transit{form, copyMsg(1, 7, n+1, ops[n]), false})
		}
	}
	return out
}

// otherTransits are messages of later and of earlier terms: the leader is 1, the other node 2.
func otherTransits() []transit {
	out := []transit{
		{"stray", hasMsg(2, 5, 0), true}, {"stray", hasMsg(2, 5, 1), true}, {"stray", hasMsg(2, 5, 2), true},
		{"stray", hasMsg(2, 5, 3), false}, {"stray", hasMsg(2, 5, 4), false}, {"stray", hasMsg(2, 5, 5), false}, {"stray", hasMsg(2, 5, 6), false}, {"stray", hasMsg(2, 5, 20), false},
		{"ahead", hasMsg(2, 5, 0), true}, {"ahead", hasMsg(2, 5, 3), true}, {"ahead", hasMsg(2, 5, 4), true},
		{"ahead", hasMsg(2, 5, 5), false}, {"ahead", hasMsg(2, 5, 6), false}, {"ahead", hasMsg(2, 5, 20), false},
		{"stray", hasMsg(2, 4, 20), true}, {"stray", hasMsg(2, 6, 20), true}, {"stray", hasMsg(2, 0, 3), true}, {"ahead", hasMsg(2, 6, 5), true},
	}
	for form := range worldsOf(1) {
		for _, m := range []impl.Msg{hasMsg(1, 0, 0), copyMsg(1, 0, 1, makeOp("A", 2)), joinMsg(1, 0, nil), joinMsg(1, 0, worldOps()), copyMsg(1, 0, 20, goneOp("D"))} {
			for to := 1; to <= 2; to++ {
				m.To = to
				for _, term := range []int{0, 4, 5, 6, 8, 9, 99} {
					m.Term = term
					out = append(out, transit{form, m, term < 7})
				}
			}
		}
		for _, term := range []int{0, 4, 5, 6} {
			out = append(out, transit{form, hasMsg(1, term, 20), true})
		}
	}
	for _, form := range []string{"both", "joining", "behind"} {
		for _, term := range []int{0, 4, 5, 6} {
			out = append(out, transit{form, hasMsg(2, term, 20), true}, transit{form, hasMsg(2, term, 3), true})
		}
	}
	return out
}

// checkTransit checks whether a run is valid with a message, and without it.
func checkTransit(t *testing.T, w impl.World, form string, m impl.Msg, want bool) {
	t.Helper()
	others := eachKind(w)[:3]
	for at := range 4 {
		w.Nets = slices.Insert(slices.Clone(others), at, m)
		if got := impl.WorldOk(w); got != want {
			t.Errorf("%s, leader %d: %v: %v", form, w.Lead, m, got)
		}
		if out := impl.WorldDo(w, impl.Event{Kind: impl.EvLose, A: at}); want != sameMsgs(out.Nets, others) || zeroWorld(out) == want {
			t.Errorf("%s, leader %d: without %v: %v", form, w.Lead, m, out)
		}
	}
}

// P81, P88, P89: which messages may be in transit, of each kind, of each term, to each node, with either leader.
func TestWorldOkOfMessages(t *testing.T) {
	for _, c := range slices.Concat(currentTransits(), otherTransits()) {
		for lead := 1; lead <= 2; lead++ {
			m := c.m
			if lead == 2 {
				m.To = 3 - m.To
			}
			w := worldsOf(lead)[c.form]
			checkTransit(t, w, c.form, m, c.want)
			if m.Kind == impl.MsgHas {
				m.Kind = impl.MsgJoined
				checkTransit(t, w, c.form, m, c.want)
			}
		}
	}
}

// P88: with any number as the term of a run that is valid in one, it is valid in no other.
func TestWorldOkOfAnyTerm(t *testing.T) {
	for form, w := range worldsOf(2) {
		for _, term := range append(noTerms(), 0, 1, 5, 6, 8, 98, 99, 7+1<<32, math.MinInt+7) {
			if w.Term = term; impl.WorldOk(w) {
				t.Errorf("%s in term %d", form, term)
			}
		}
		if w.Term = 7; !impl.WorldOk(w) {
			t.Error(form)
		}
	}
}
