package tests

import (
	"math"
	"slices"
	"strconv"
	"testing"

	"loop.example/garner/impl"
)

// opsOf are the operations of these texts; a text of none gives an invalid operation.
func opsOf(texts ...string) []impl.Op {
	var out []impl.Op
	for _, text := range texts {
		o, _ := impl.OpRead(text)
		out = append(out, o)
	}
	return out
}

func logOf(base impl.Pool, ops []impl.Op, safe int) impl.Log {
	return impl.Log{Base: base, Ops: ops, Safe: safe}
}

// logCopy shares no memory with l.
func logCopy(l impl.Log) impl.Log {
	return logOf(poolCopy(l.Base), slices.Clone(l.Ops), l.Safe)
}

func sameLog(a, b impl.Log) bool {
	return samePool(a.Base, b.Base) && slices.Equal(a.Ops, b.Ops) && a.Safe == b.Safe
}

func zeroLog(l impl.Log) bool {
	return sameLog(l, impl.Log{})
}

// poolAfter is p after the operations, one by one, and whether all of them are possible.
func poolAfter(p impl.Pool, ops []impl.Op) (impl.Pool, bool) {
	for _, o := range ops {
		var ok bool
		if p, ok = impl.OpDo(p, o); !ok {
			return impl.Pool{}, false
		}
	}
	return p, true
}

// someLogOps are operations, each possible in p after those ahead of it.
func someLogOps(p impl.Pool, count int, next func(int) int) []impl.Op {
	var out []impl.Op
	for len(out) < count {
		ops := someOps(p)
		o := ops[next(len(ops))]
		if q, ok := impl.OpDo(p, o); ok {
			p, out = q, append(out, o)
		}
	}
	return out
}

// fullOps are LogMax operations, possible in a new pool.
func fullOps() []impl.Op {
	return opsOf("make A 2", "write A 0 a", "write A 1 b", "clone A B", "write B 0 c", "free A 0", "gone A", "make A 6", "write A 5 c", "write A 4 d",
		"write A 3 ab", "write A 2 ab", "clone A D", "write D 0 dddd", "free D 3", "gone B", "clone D C", "make B 1", "write B 0 dcba", "write A 0 aa")
}

// givenLogs are valid logs with what the document names as a limit.
func givenLogs() []impl.Log {
	some := opsOf("make A 1", "write A 0 c", "free A 0")
	// There is no room for the second one before the first one.
	room := opsOf("write B 0 b", "write D 1 dddd", "gone B", "clone D B")
	return []impl.Log{
		logOf(poolOf(nil), nil, 0),
		logOf(greatestPool(), nil, 0),
		logOf(poolOf(nil), some, 0),
		logOf(poolOf(nil), some, 1),
		logOf(poolOf(nil), some, 3),
		logOf(fullPool(), room, 0),
		logOf(fullPool(), room, 1),
		logOf(fullPool(), room, 2),
		logOf(fullPool(), room, 4),
		logOf(poolOf(nil), fullOps(), 0),
		logOf(poolOf(nil), fullOps(), 7),
		logOf(poolOf(nil), fullOps(), impl.LogMax-1),
		logOf(poolOf(nil), fullOps(), impl.LogMax),
	}
}

// logs are valid logs: without operations, with some and with LogMax of them, of which none, some or all are durable.
func logs() []impl.Log {
	out := givenLogs()
	next := numbers(13)
	for i, p := range pools() {
		count := []int{0, 1, 2, 5, 9, impl.LogMax - 1, impl.LogMax}[i%7]
		ops := someLogOps(p, count, next)
		for _, safe := range []int{0, next(count + 1), count} {
			out = append(out, logOf(p, ops, safe))
		}
	}
	return out
}

// noLogs are invalid logs.
func noLogs() map[string]impl.Log {
	p := poolOf(nil)
	some := opsOf("make A 2", "write A 0 c", "clone A B")
	out := map[string]impl.Log{
		"the zero value":                   {},
		"operations without a base":        {Ops: some},
		"21 operations":                    logOf(p, append(fullOps(), opsOf("write A 1 a")...), 0),
		"21 operations, 20 of them safe":   logOf(p, append(fullOps(), opsOf("write A 1 a")...), 20),
		"21 operations, all safe":          logOf(p, append(fullOps(), opsOf("write A 1 a")...), 21),
		"276 operations":                   logOf(p, append(fullOps(), slices.Repeat(opsOf("write A 1 a"), 256)...), 0),
		"a million operations":             logOf(p, append(fullOps(), slices.Repeat(opsOf("write A 1 a"), 1000000)...), 0),
		"one safe without operations":      logOf(p, nil, 1),
		"less than none safe":              logOf(p, nil, -1),
		"a volume not there yet":           logOf(p, opsOf("write A 0 c", "make A 2"), 0),
		"a volume there already":           logOf(p, opsOf("make A 2", "make A 2"), 2),
		"a volume there in the base":       logOf(poolOf(nil, vol("A", 0)), opsOf("make A 2"), 0),
		"a volume gone":                    logOf(p, opsOf("make A 2", "gone A", "write A 0 c"), 1),
		"a volume gone twice":              logOf(p, opsOf("make A 2", "gone A", "gone A"), 3),
		"a clone of itself":                logOf(p, opsOf("make A 2", "clone A A"), 0),
		"no room yet":                      logOf(fullPool(), opsOf("write D 1 dddd", "write B 0 b"), 0),
		"no such block":                    logOf(p, opsOf("make A 2", "write A 2 c"), 0),
		"the last of many is not possible": logOf(p, append(fullOps()[:18], opsOf("gone C", "gone C")...), 0),
	}
	for _, safe := range []int{-1, -3, -256, math.MinInt, 4, 5, 20, 21, 256, 259, 1 << 32, 1<<32 + 1, math.MaxInt} {
		out["safe "+strconv.Itoa(safe)] = logOf(p, some, safe)
	}
	for what, base := range noPools() {
		out["a base with "+what] = logOf(base, nil, 0)
		out["operations on a base with "+what] = logOf(base, some, 1)
	}
	for i, o := range noLogOps() {
		for at := range len(some) + 1 {
			out["invalid operation "+strconv.Itoa(i)+" at "+strconv.Itoa(at)] = logOf(p, slices.Insert(slices.Clone(some), at, o), 0)
		}
	}
	return out
}

// noLogOps are invalid operations; most would be possible after a volume A is made if their wrong fields did not matter.
func noLogOps() []impl.Op {
	return []impl.Op{
		{}, {Name: "A"}, {Kind: 5, Name: "A"}, {Kind: -1, Name: "A"}, {Kind: impl.OpMake, Name: "D", N: 1, To: "C"}, {Kind: impl.OpMake, Name: "D", N: 1, Text: "a"},
		makeOp("D", 0), makeOp("D", 7), makeOp("E", 1), writeOp("A", 0, "e"), writeOp("A", 6, "a"), writeOp("A", -1, ""), writeOp("A", 0, "aaaaa"),
		{Kind: impl.OpWrite, Name: "A", Text: "a", To: "A"}, {Kind: impl.OpClone, Name: "A", To: "D", N: 1}, {Kind: impl.OpClone, Name: "A", To: "D", Text: "a"},
		cloneOp("A", ""), cloneOp("A", "E"), {Kind: impl.OpGone, Name: "A", To: "A"}, {Kind: impl.OpGone, Name: "A", N: 1}, goneOp(""), goneOp("E"),
	}
}

// checkLog compares a log with the one that it must be.
func checkLog(t *testing.T, what string, got, want impl.Log) {
	t.Helper()
	if !sameLog(got, want) || !impl.LogOk(got) {
		t.Fatalf("%s: %v, not %v", what, got, want)
	}
}

func TestLimitOfLogs(t *testing.T) {
	if impl.LogMax != 20 {
		t.Error(impl.LogMax)
	}
}

// P44, P45: a new log is valid, and has a new pool, no operations, and nothing durable.
func TestLogNew(t *testing.T) {
	checkLog(t, "a new log", impl.LogNew(), logOf(impl.PoolNew(), nil, 0))
	if got := impl.LogPool(impl.LogNew()); !samePool(got, impl.PoolNew()) {
		t.Error(got)
	}
}

// P50: what is a log.
func TestLogOk(t *testing.T) {
	for _, l := range logs() {
		if !impl.LogOk(l) {
			t.Errorf("%v is a log", l)
		}
	}
	if !impl.LogOk(impl.Log{Base: poolOf(nil), Ops: []impl.Op{}}) || !impl.LogOk(impl.Log{Base: impl.Pool{Slots: impl.StoreNew(), Vols: []impl.Vol{}}}) {
		t.Error("empty slices")
	}
}

// P50: what is no log; no function gives anything for it.
func TestNoLog(t *testing.T) {
	for what, l := range noLogs() {
		if impl.LogOk(l) {
			t.Errorf("%.60q: no log", what)
		}
		for _, o := range append(opsOf("make C 1", "write A 0 d", "make A 1", "gone D"), impl.Op{}) {
			if out, ok := impl.LogAdd(l, o); ok || !zeroLog(out) {
				t.Errorf("%.60q: add %v: %v %v", what, o, out, ok)
			}
		}
		for _, left := range []int{-1, 0, 1, 3, 20} {
			if out := impl.LogFall(l, left); !zeroLog(out) {
				t.Errorf("%.60q: fall %d: %v", what, left, out)
			}
		}
		if keep, pack, p := impl.LogKeep(l), impl.LogPack(l), impl.LogPool(l); !zeroLog(keep) || !zeroLog(pack) || !zeroPool(p) {
			t.Errorf("%.60q: %v %v %v", what, keep, pack, p)
		}
	}
}

// P50: a log is valid with as many durable operations as it has, or fewer, and invalid with any other number.
func TestLogOkOfAnySafe(t *testing.T) {
	for _, l := range logs() {
		for _, safe := range append(noBlockIndexes(), 0, 1, 2, 3, 4, 5, 9, 19, 20, 21, len(l.Ops), len(l.Ops)+1) {
			other := logOf(l.Base, l.Ops, safe)
			if got, want := impl.LogOk(other), safe >= 0 && safe <= len(l.Ops); got != want {
				t.Fatalf("%d of %d safe: %v", safe, len(l.Ops), got)
			}
		}
	}
}

// P50: a log stays valid with a prefix of its operations, unless more are durable then than it has.
func TestLogOkOfPrefixes(t *testing.T) {
	for _, l := range logs() {
		for n := range len(l.Ops) + 1 {
			for safe := range len(l.Ops) + 2 {
				if got := impl.LogOk(logOf(l.Base, l.Ops[:n], safe)); got != (safe <= n) {
					t.Fatalf("%d of %d operations, %d safe: %v", n, len(l.Ops), safe, got)
				}
			}
		}
	}
}

// P50: with another operation in place of one a log is valid exactly if all of them are possible, one after the other.
func TestLogOkOfChangedOperations(t *testing.T) {
	next := numbers(50)
	valid, invalid := 0, 0
	for _, l := range logs() {
		for i := range l.Ops {
			ops := append(someOps(l.Base), noLogOps()...)
			for range 10 {
				other := logCopy(l)
				other.Ops[i] = ops[next(len(ops))]
				_, want := poolAfter(other.Base, other.Ops)
				if got := impl.LogOk(other); got != want {
					t.Fatalf("%v with %v at %d: %v", l, other.Ops[i], i, got)
				}
				if want {
					valid++
				} else {
					invalid++
				}
			}
		}
	}
	if valid < 500 || invalid < 500 {
		t.Error("too few of a kind:", valid, invalid)
	}
}

// P45, P51: the pool is that after each operation, in order, from the base on; it is valid.
func TestLogPool(t *testing.T) {
	for _, l := range logs() {
		want, ok := poolAfter(l.Base, l.Ops)
		checkResult(t, "the pool of a log", impl.LogPool(l), ok, want, true)
	}
}

// P45: pools of logs, by hand; what is durable does not matter to them.
func TestLogPoolOfGivenLogs(t *testing.T) {
	for _, c := range []struct {
		base impl.Pool
		ops  []impl.Op
		want string
	}{
		{poolOf(nil), nil, ""},
		{fullPool(), nil, "B a b c d ab\nD da - ac ddd\n"},
		{poolOf(nil), opsOf("make A 1"), "A -\n"},
		{poolOf(nil), opsOf("make A 2", "write A 1 ab", "clone A C", "write A 1 d", "free A 0"), "A - d\nC - ab\n"},
		{poolOf(nil), opsOf("make A 2", "write A 1 ab", "write A 1 d", "clone A C"), "A - d\nC - d\n"},
		{fullPool(), opsOf("write B 0 b", "write D 1 dddd", "gone B", "clone D B"), "B da dddd ac ddd\nD da dddd ac ddd\n"},
		{poolOf([]string{"a"}, vol("C", 1, 0)), opsOf("gone C", "make C 1"), "C -\n"},
		{poolOf(nil), fullOps(), "A aa - ab ab d c\nB dcba\nC dddd - ab - d c\nD dddd - ab - d c\n"},
	} {
		for safe := range len(c.ops) + 1 {
			p := impl.LogPool(logOf(c.base, c.ops, safe))
			checkPool(t, "a given log", p)
			if got := impl.PoolText(p); got != c.want {
				t.Errorf("%d of %v safe: %q, not %q", safe, c.ops, got, c.want)
			}
		}
	}
}

// P52: the pool is that of the last operations, applied to the pool of the first ones.
func TestLogPoolInTwoParts(t *testing.T) {
	for _, l := range logs() {
		want := impl.LogPool(l)
		for n := range len(l.Ops) + 1 {
			first := impl.LogPool(logOf(l.Base, l.Ops[:n], 0))
			if got := impl.LogPool(logOf(first, l.Ops[n:], 0)); !samePool(got, want) {
				t.Fatalf("%v split at %d: %v, not %v", l, n, got, want)
			}
		}
	}
}
