package tests

import (
	"math"
	"slices"
	"testing"

	"loop.example/garner/impl"
)

// add adds an operation that is possible.
func add(t *testing.T, l impl.Log, o impl.Op) impl.Log {
	t.Helper()
	out, ok := impl.LogAdd(l, o)
	if !ok {
		t.Fatalf("%v cannot be added to %v", o, l)
	}
	return out
}

// lefts are numbers of operations that a fall may leave.
func lefts() []int {
	out := []int{256, 257, 1 << 32, 1<<32 + 1, math.MaxInt}
	for n := range impl.LogMax + 3 {
		out = append(out, n)
	}
	return out
}

// wantFall is the log after a fall.
func wantFall(l impl.Log, left int) impl.Log {
	count := left
	if left < l.Safe {
		count = l.Safe
	} else if left > len(l.Ops) {
		count = len(l.Ops)
	}
	return logOf(l.Base, l.Ops[:count], l.Safe)
}

// P44: an operation becomes the last one, not durable, exactly if it is possible and the log is not full; otherwise nothing changes.
func TestLogAdd(t *testing.T) {
	done, not, full := 0, 0, 0
	for _, l := range logs() {
		p := impl.LogPool(l)
		for _, o := range someOps(p) {
			after, possible := impl.OpDo(p, o)
			out, ok := impl.LogAdd(l, o)
			if ok != (possible && len(l.Ops) < impl.LogMax) {
				t.Fatalf("%v added to %v: %v", o, l, ok)
			}
			switch {
			case ok:
				done++
				checkLog(t, "added", out, logOf(l.Base, append(slices.Clone(l.Ops), o), l.Safe))
				if got := impl.LogPool(out); !samePool(got, after) {
					t.Fatalf("%v added to %v: %v, not %v", o, l, got, after)
				}
			case possible:
				full++
				checkLog(t, "added to a full log", out, l)
			default:
				not++
				checkLog(t, "not possible", out, l)
			}
		}
	}
	if done < 500 || not < 500 || full < 500 {
		t.Error("too few of a kind:", done, not, full)
	}
}

// P44: an invalid operation gives no log, even where the log is full or the operation would be possible.
func TestLogAddOfInvalidOperations(t *testing.T) {
	for _, l := range append(logs(), logOf(poolOf(nil, vol("A", 0)), nil, 0)) {
		for _, o := range noLogOps() {
			if out, ok := impl.LogAdd(l, o); ok || !zeroLog(out) {
				t.Fatalf("%v added to %v: %v %v", o, l, out, ok)
			}
		}
	}
}

// P44: operations added by hand; what is possible depends on those that are not durable, too.
func TestLogAddStepByStep(t *testing.T) {
	l := impl.LogNew()
	var ops []impl.Op
	for _, c := range []struct {
		text, want string
		ok         bool
	}{
		{"write A 0 a", "", false},
		{"make A 2", "A - -\n", true},
		{"make A 2", "A - -\n", false},
		{"write A 2 a", "A - -\n", false},
		{"write A 1 a", "A - a\n", true},
		{"clone B A", "A - a\n", false},
		{"clone A B", "A - a\nB - a\n", true},
		{"gone A", "B - a\n", true},
		{"gone A", "B - a\n", false},
		{"make A 1", "A -\nB - a\n", true},
		{"free A 0", "A -\nB - a\n", true},
	} {
		o := opsOf(c.text)[0]
		out, ok := impl.LogAdd(l, o)
		if ok {
			ops = append(ops, o)
		}
		if got := impl.PoolText(impl.LogPool(out)); ok != c.ok || got != c.want {
			t.Fatalf("%s: %v %q", c.text, ok, got)
		}
		checkLog(t, c.text, out, logOf(impl.PoolNew(), ops, 0))
		l = out
	}
}

// P44: LogMax operations are added, durable or not, and no further one; once some are packed, there is room for as many.
func TestLogAddUntilFull(t *testing.T) {
	for safe := range impl.LogMax + 1 {
		l := impl.LogNew()
		for i, o := range fullOps() {
			if i == safe {
				l = impl.LogKeep(l)
			}
			l = add(t, l, o)
		}
		if safe == impl.LogMax {
			l = impl.LogKeep(l)
		}
		checkLog(t, "a full log", l, logOf(impl.PoolNew(), fullOps(), safe))
		further := opsOf("write A 1 a")[0]
		for _, o := range []impl.Op{further, opsOf("make A 1")[0]} {
			out, ok := impl.LogAdd(l, o)
			if ok {
				t.Fatalf("%v is added to a full log", o)
			}
			checkLog(t, "a full log", out, l)
		}
		l = impl.LogPack(l)
		for range safe {
			l = add(t, l, further)
		}
		if out, ok := impl.LogAdd(l, further); ok || !sameLog(out, l) || len(l.Ops) != impl.LogMax {
			t.Fatalf("%d operations after %d were packed: %v", len(l.Ops), safe, ok)
		}
	}
}

// P47: all operations become durable, and nothing else changes; there are no more of them the second time.
func TestLogKeep(t *testing.T) {
	for _, l := range logs() {
		want := logOf(l.Base, l.Ops, len(l.Ops))
		out := impl.LogKeep(l)
		checkLog(t, "kept", out, want)
		checkLog(t, "kept twice", impl.LogKeep(out), want)
	}
}

// P46: the operations that are left are a prefix of the given length, but at least the durable ones and at most all;
// what is left does not become durable, and a second such fall takes nothing more.
func TestLogFall(t *testing.T) {
	for _, l := range logs() {
		for _, left := range lefts() {
			want := wantFall(l, left)
			out := impl.LogFall(l, left)
			checkLog(t, "fallen", out, want)
			checkLog(t, "fallen twice", impl.LogFall(out, left), want)
			checkLog(t, "fallen further", impl.LogFall(out, 0), logOf(l.Base, l.Ops[:l.Safe], l.Safe))
		}
		for _, left := range []int{-1, -2, -20, -256, -1 << 32, math.MinInt} {
			if out := impl.LogFall(l, left); !zeroLog(out) {
				t.Fatalf("%d left of %v: %v", left, l, out)
			}
		}
	}
}

// P46: falls by hand: fewer are left than are durable, as many, more, all, and more than there are.
func TestLogFallOfAGivenLog(t *testing.T) {
	ops := opsOf("make A 2", "write A 0 a", "write A 1 b", "free A 0", "gone A")
	l := logOf(poolOf(nil, vol("D", 0)), ops, 2)
	for left, want := range map[int]struct {
		count int
		text  string
	}{
		0: {2, "A a -\nD -\n"}, 1: {2, "A a -\nD -\n"}, 2: {2, "A a -\nD -\n"}, 3: {3, "A a b\nD -\n"}, 4: {4, "A - b\nD -\n"}, 5: {5, "D -\n"},
		6: {5, "D -\n"}, math.MaxInt: {5, "D -\n"},
	} {
		out := impl.LogFall(l, left)
		checkLog(t, "fallen", out, logOf(l.Base, ops[:want.count], 2))
		if got := impl.PoolText(impl.LogPool(out)); got != want.text {
			t.Errorf("%d left: %q, not %q", left, got, want.text)
		}
	}
}

// P47: after all operations are kept, no fall takes one, and the pool is unchanged.
func TestLogKeepThenFall(t *testing.T) {
	for _, l := range logs() {
		kept := impl.LogKeep(l)
		for _, left := range lefts() {
			out := impl.LogFall(kept, left)
			checkLog(t, "kept, then fallen", out, kept)
			if !slices.Equal(out.Ops, l.Ops) || !samePool(impl.LogPool(out), impl.LogPool(l)) {
				t.Fatalf("%d left of %v: %v", left, l, out)
			}
		}
	}
}

// P48: the durable operations are in the base pool then, the others remain, and the pool is unchanged; the second time nothing changes.
func TestLogPack(t *testing.T) {
	packed := 0
	for _, l := range logs() {
		base, _ := poolAfter(l.Base, l.Ops[:l.Safe])
		want := logOf(base, l.Ops[l.Safe:], 0)
		out := impl.LogPack(l)
		checkLog(t, "packed", out, want)
		checkLog(t, "packed twice", impl.LogPack(out), want)
		if got := impl.LogPool(out); !samePool(got, impl.LogPool(l)) {
			t.Fatalf("%v packed: %v", l, got)
		}
		if l.Safe == 0 {
			checkLog(t, "packed with nothing durable", out, l)
		} else if len(out.Ops) > 0 {
			packed++
		}
	}
	if packed < 20 {
		t.Error("too few are durable in part:", packed)
	}
}

// P48: logs packed by hand.
func TestLogPackOfAGivenLog(t *testing.T) {
	ops := opsOf("make A 2", "write A 0 a", "clone A B", "write A 0 b")
	for safe, want := range []impl.Pool{
		poolOf(nil),
		poolOf(nil, vol("A", 0, 0)),
		poolOf([]string{"", "a"}, vol("A", 2, 0)),
		poolOf([]string{"", "a"}, vol("A", 2, 0), vol("B", 2, 0)),
		poolOf([]string{"", "a", "b"}, vol("A", 3, 0), vol("B", 2, 0)),
	} {
		checkLog(t, "packed", impl.LogPack(logOf(poolOf(nil), ops, safe)), logOf(want, ops[safe:], 0))
	}
}

// P49: a fall leaves the same pool as a fall after packing that leaves as many fewer as were packed, but at least none.
func TestLogFallAfterPack(t *testing.T) {
	for _, l := range logs() {
		packed := impl.LogPack(l)
		for _, left := range lefts() {
			one := impl.LogPool(impl.LogFall(l, left))
			two := impl.LogPool(impl.LogFall(packed, max(0, left-l.Safe)))
			want, _ := poolAfter(l.Base, wantFall(l, left).Ops)
			if !samePool(one, two) || !samePool(one, want) {
				t.Fatalf("%d left of %v: %v and %v, not %v", left, l, one, two, want)
			}
		}
	}
}

// P53: if all is kept and one operation added, a fall that leaves none takes exactly this one.
func TestLogFallTakesTheAddedOperation(t *testing.T) {
	added := 0
	for _, l := range logs() {
		kept := impl.LogKeep(l)
		for _, o := range someOps(impl.LogPool(l)) {
			out, ok := impl.LogAdd(kept, o)
			if !ok {
				continue
			}
			added++
			checkLog(t, "fallen", impl.LogFall(out, 0), kept)
			checkLog(t, "fallen as before", impl.LogFall(out, len(l.Ops)), kept)
			checkLog(t, "kept again", impl.LogFall(impl.LogKeep(out), 0), logOf(l.Base, append(slices.Clone(l.Ops), o), len(l.Ops)+1))
		}
	}
	if added < 500 {
		t.Error("too few are added:", added)
	}
}

// P44 to P53: on a long walk each function does to a log what it must do to it.
func TestLogWalk(t *testing.T) {
	next := numbers(44)
	l, want := impl.LogNew(), logOf(impl.PoolNew(), nil, 0)
	full := 0
	for range 4000 {
		switch next(16) {
		case 0:
			l, want = impl.LogKeep(l), logOf(want.Base, want.Ops, len(want.Ops))
		case 1:
			left := next(impl.LogMax + 2)
			l, want = impl.LogFall(l, left), wantFall(want, left)
		case 2:
			base, _ := poolAfter(want.Base, want.Ops[:want.Safe])
			l, want = impl.LogPack(l), logOf(base, want.Ops[want.Safe:], 0)
		default:
			ops := someOps(impl.LogPool(l))
			o := ops[next(len(ops))]
			_, possible := poolAfter(want.Base, append(slices.Clone(want.Ops), o))
			var ok bool
			l, ok = impl.LogAdd(l, o)
			if ok != (possible && len(want.Ops) < impl.LogMax) {
				t.Fatalf("%v added to %v: %v", o, want, ok)
			}
			if ok {
				want.Ops = append(slices.Clone(want.Ops), o)
			}
		}
		checkLog(t, "a walk", l, want)
		p, _ := poolAfter(want.Base, want.Ops)
		checkResult(t, "a walk", impl.LogPool(l), true, p, true)
		if len(l.Ops) == impl.LogMax {
			full++
		}
	}
	if full < 50 {
		t.Error("the walk is poor: seldom full:", full)
	}
}

// roomyLog is a copy of l with further operations, slots, volumes and blocks behind the ends.
func roomyLog(l impl.Log) impl.Log {
	ops := append(slices.Clone(l.Ops), slices.Repeat(opsOf("make D 6"), 2*impl.LogMax)...)
	return logOf(roomyPool(l.Base), ops[:len(l.Ops)], l.Safe)
}

// wholeLog is l with all that lies behind its ends.
func wholeLog(l impl.Log) impl.Log {
	return logOf(wholePool(l.Base), l.Ops[:cap(l.Ops)], l.Safe)
}

// scratchLog writes to all the memory of a result, and tells whether volumes of it share some.
func scratchLog(l impl.Log) bool {
	ops := l.Ops[:cap(l.Ops)]
	for i := range ops {
		ops[i] = impl.Op{Kind: -1, Name: "scratch"}
	}
	return scratchPool(l.Base)
}

// logResults are what the functions return for l, with a pool as the base of a log.
func logResults(l impl.Log) []impl.Log {
	out := []impl.Log{impl.LogNew(), impl.LogKeep(l), impl.LogPack(l), {Base: impl.LogPool(l)}}
	for _, left := range []int{-1, 0, len(l.Ops) / 2, len(l.Ops), impl.LogMax} {
		out = append(out, impl.LogFall(l, left))
	}
	for _, o := range append(opsOf("make A 1", "make D 6", "write A 0 a", "write B 0 b", "clone A C", "gone D", "free C 0"), impl.Op{}) {
		added, _ := impl.LogAdd(l, o)
		out = append(out, added)
	}
	return out
}

// General rule: no function changes the log that it is given, nor what lies behind its ends, and no result shares memory with it,
// with another result, or within itself.
func TestLogSharesNoMemory(t *testing.T) {
	invalid := noLogs()
	samples := append(logs()[:40], invalid["safe -1"], invalid["safe 4"], invalid["21 operations"], invalid["no room yet"],
		invalid["a base with a count of 99"], invalid["operations on a base with a volume twice"], invalid["invalid operation 0 at 1"])
	for i, l := range samples {
		arg := roomyLog(l)
		before := logCopy(wholeLog(arg))
		if impl.LogOk(arg) != impl.LogOk(l) {
			t.Fatalf("log %d with room behind its ends", i)
		}
		want := logResults(l)
		results, others := logResults(arg), logResults(arg)
		for j, out := range results {
			if !sameLog(out, want[j]) {
				t.Fatalf("log %d: result %d is %v, not %v", i, j, out, want[j])
			}
			if scratchLog(out) {
				t.Fatalf("log %d: volumes of result %d share memory", i, j)
			}
			if j+1 < len(results) && !sameLog(results[j+1], want[j+1]) {
				t.Fatalf("log %d: result %d shares memory with the one before", i, j+1)
			}
		}
		for j, out := range others {
			if !sameLog(out, want[j]) {
				t.Fatalf("log %d: result %d shares memory with another one", i, j)
			}
		}
		if !sameLog(wholeLog(arg), before) {
			t.Fatalf("log %d is changed", i)
		}
	}
}
