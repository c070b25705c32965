package tests

import (
	"slices"
	"testing"

	"loop.example/garner/impl"
)

// wantTransit tells whether a valid message may be in transit in a run, which is valid without it.
func wantTransit(w impl.World, m impl.Msg) bool {
	lead, other := sidesOf(w)
	carriesOps := m.Kind == impl.MsgCopy || m.Kind == impl.MsgJoin
	switch {
	case m.Term > w.Term:
		return false
	case m.Term < w.Term:
		learns := !carriesOps && m.To != w.Lead && other.Leads && other.Term == m.Term
		return !learns || m.N <= len(other.Ops) && begins(w.Done, other.Ops[:m.N])
	case carriesOps != (m.To != w.Lead):
		return false
	case m.Kind == impl.MsgCopy:
		return m.N <= len(lead.Ops) && lead.Ops[m.N-1] == m.Op
	case m.Kind == impl.MsgJoin:
		return begins(lead.Ops, m.Ops)
	}
	return other.Term == w.Term && m.N <= len(other.Ops)
}

// someNodes are the nodes of a run without messages, of any term that has an earlier one or not, whether it can be reached from WorldNew or not.
func someNodes(next func(int) int) impl.World {
	ops := someLogOps(poolOf(nil), next(impl.LogMax+1), next)
	term := []int{0, 1, 2, 3, 50, termMax - 1, termMax}[next(7)]
	up := func() bool { return next(3) > 0 }
	has := func() int { return len(ops) - min(next(4), next(len(ops)+1)) }
	lead, other := role{up(), true, false}, role{up(), false, false}
	if next(2) == 0 {
		some := has()
		return worldOf(1+next(2), true, nodeOf(lead, term, ops), nodeOf(other, term, ops[:some]), ops[:min(some, has())])
	}
	lead.alone = true
	if term == 0 || next(3) == 0 {
		return worldOf(1+next(2), false, nodeOf(lead, term, ops), nodeOf(other, term, ops[:has()]), ops)
	}
	other.leads = next(3) > 0
	shared := ops[:has()]
	p, _ := poolAfter(poolOf(nil), shared)
	own := slices.Concat(shared, someLogOps(p, next(impl.LogMax-len(shared)+1), next))
	return worldOf(1+next(2), false, nodeOf(lead, term, ops), nodeOf(other, max(0, term-1-next(3)), own), ops)
}

// someMsg is a valid message that may be in transit in a run, or not.
func someMsg(w impl.World, next func(int) int) impl.Msg {
	lead, other := sidesOf(w)
	terms := slices.DeleteFunc([]int{w.Term, w.Term, other.Term, w.Term - 1, w.Term + 1}, func(term int) bool { return term < 0 || term > termMax })
	to, term := 1+next(2), terms[next(len(terms))]
	ops := [][]impl.Op{lead.Ops, lead.Ops, other.Ops}[next(3)]
	n := len(ops) - min(next(3), next(len(ops)+1))
	switch next(4) {
	case 0:
		if n == 0 {
			return copyMsg(to, term, 1+next(impl.LogMax), makeOp("A", 1))
		}
		return copyMsg(to, term, n, ops[max(0, n-1-next(2))])
	case 1:
		return joinMsg(to, term, ops[:n])
	case 2:
		return hasMsg(to, term, min(n+next(2), impl.LogMax))
	}
	return joinedMsg(to, term, min(n+next(2), impl.LogMax))
}

// anyWorld is a valid run, which can be reached from WorldNew or not; it checks for each message that is tried whether it may be in transit.
func anyWorld(t *testing.T, next func(int) int) impl.World {
	t.Helper()
	w := someNodes(next)
	if !impl.WorldOk(w) {
		t.Fatalf("no run: %v", w)
	}
	for range []int{0, 1, 5, 12, 40}[next(5)] {
		m := someMsg(w, next)
		with := w
		with.Nets = append(slices.Clone(w.Nets), m)
		want := len(with.Nets) <= impl.NetMax && wantTransit(w, m)
		if got := impl.WorldOk(with); got != want {
			t.Fatalf("%v in %v: %v", m, w, got)
		}
		if want {
			w = with
		}
	}
	return w
}

// P67, P85, P94: of any valid run, each kind of event makes what it must make, which is a valid run; what is acknowledged stays,
// and terms never decrease.
func TestWorldDoOfAnyRun(t *testing.T) {
	next := numbers(67)
	full, last := 0, 0
	for range 800 {
		w := anyWorld(t, next)
		for kind := range 11 {
			for range 3 {
				e := impl.Event{Kind: kind, A: next(4)}
				if kind == impl.EvBring && len(w.Nets) > 0 {
					e.A = next(len(w.Nets))
				}
				if kind == impl.EvAsk {
					e = someAsk(w, next)
				}
				out := checkDo(t, "any run", w, e, wantEvent(w, e))
				if !begins(out.Done, w.Done) || out.Term < w.Term || out.Nodes[0].Term < w.Nodes[0].Term || out.Nodes[1].Term < w.Nodes[1].Term {
					t.Fatalf("%v makes of %v: %v", e, w, out)
				}
			}
		}
		checkCalm(t, "any run", w, 1+next(2))
		if len(w.Nets) == impl.NetMax {
			full++
		}
		if w.Term == termMax && w.Both {
			last++
		}
	}
	if full < 50 || last < 50 {
		t.Error("too few of a kind:", full, last)
	}
}

// P88: a valid run is not valid with another value in one of its fields, unless all conditions are met then.
func TestWorldOkOfChangedRuns(t *testing.T) {
	next := numbers(89)
	for range 800 {
		w := anyWorld(t, next)
		w.Nets = nil
		changes := []func(w *impl.World, lead, other *impl.Node){
			func(w *impl.World, _, _ *impl.Node) { w.Both = !w.Both },
			func(w *impl.World, _, _ *impl.Node) { w.Term += 1 - 2*next(2) },
			func(w *impl.World, _, _ *impl.Node) { w.Lead = 3 - w.Lead },
			func(_ *impl.World, lead, _ *impl.Node) { lead.Leads = !lead.Leads },
			func(_ *impl.World, lead, _ *impl.Node) { lead.Alone = !lead.Alone },
			func(_ *impl.World, lead, _ *impl.Node) { lead.Term += 1 - 2*next(2) },
		}
		for i, change := range changes {
			out := worldCopy(w)
			lead, other := sidesOf(out)
			if change(&out, lead, other); impl.WorldOk(out) {
				t.Fatalf("change %d of %v", i, w)
			}
		}
		for count := range len(w.Done) + 2 {
			lead, other := sidesOf(w)
			out := w
			if count > len(lead.Ops) {
				break
			}
			out.Done = lead.Ops[:count]
			want := count == len(lead.Ops) || !lead.Alone
			if w.Both && count > len(other.Ops) {
				want = false
			}
			if got := impl.WorldOk(out); got != want {
				t.Fatalf("%d are acknowledged in %v: %v", count, w, got)
			}
		}
	}
}
