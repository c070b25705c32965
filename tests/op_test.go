package tests

import (
	"math"
	"slices"
	"strings"
	"testing"

	"loop.example/garner/impl"
)

func makeOp(name string, size int) impl.Op {
	return impl.Op{Kind: impl.OpMake, Name: name, N: size}
}

func writeOp(name string, block int, text string) impl.Op {
	return impl.Op{Kind: impl.OpWrite, Name: name, N: block, Text: text}
}

func cloneOp(from, to string) impl.Op {
	return impl.Op{Kind: impl.OpClone, Name: from, To: to}
}

func goneOp(name string) impl.Op {
	return impl.Op{Kind: impl.OpGone, Name: name}
}

// opTexts are all valid operations with their texts, put together from names, digits and pieces.
func opTexts() map[impl.Op]string {
	out := map[impl.Op]string{}
	pieces := allPieces()[1:]
	for _, name := range volNames() {
		for i, digit := range []string{"1", "2", "3", "4", "5", "6"} {
			out[makeOp(name, i+1)] = "make " + name + " " + digit
		}
		for i, digit := range []string{"0", "1", "2", "3", "4", "5"} {
			out[writeOp(name, i, "")] = "free " + name + " " + digit
			for _, piece := range pieces {
				out[writeOp(name, i, piece)] = "write " + name + " " + digit + " " + piece
			}
		}
		for _, to := range volNames() {
			out[cloneOp(name, to)] = "clone " + name + " " + to
		}
		out[goneOp(name)] = "gone " + name
	}
	return out
}

// textOps are the texts of all valid operations with what they are the text of.
func textOps() map[string]impl.Op {
	out := map[string]impl.Op{}
	for o, text := range opTexts() {
		out[text] = o
	}
	return out
}

// givenOps are valid operations of each kind, with the least and the greatest number.
func givenOps() []impl.Op {
	return []impl.Op{
		makeOp("A", 1), makeOp("D", 6), makeOp("B", 3),
		writeOp("A", 0, "a"), writeOp("D", 5, "dddd"), writeOp("C", 2, "abc"),
		writeOp("A", 0, ""), writeOp("D", 5, ""),
		cloneOp("A", "D"), cloneOp("D", "A"), cloneOp("B", "B"),
		goneOp("A"), goneOp("D"),
	}
}

func checkRead(t *testing.T, text string, want impl.Op, wantOk bool) {
	t.Helper()
	if got, ok := impl.OpRead(text); got != want || ok != wantOk {
		t.Fatalf("%.60q: %v %v, not %v %v", text, got, ok, want, wantOk)
	}
}

func TestKindsOfOperations(t *testing.T) {
	if impl.OpMake != 1 || impl.OpWrite != 2 || impl.OpClone != 3 || impl.OpGone != 4 {
		t.Error(impl.OpMake, impl.OpWrite, impl.OpClone, impl.OpGone)
	}
}

// P36, P37, P38: each operation has a text, of no other one, and is read back from it.
func TestOpTextAndOpRead(t *testing.T) {
	all := opTexts()
	if texts := textOps(); len(texts) != len(all) || len(all) != 24+6*4*341+16+4 {
		t.Fatal(len(texts), len(all))
	}
	for o, text := range all {
		if got := impl.OpText(o); got != text || !impl.OpOk(o) {
			t.Fatalf("%v: %q, not %q", o, got, text)
		}
		checkRead(t, text, o, true)
	}
}

// P36, P37: texts written out by hand.
func TestOpReadOfGivenTexts(t *testing.T) {
	for _, c := range []struct {
		text string
		want impl.Op
	}{
		{"make A 1", impl.Op{Kind: 1, Name: "A", N: 1}},
		{"make D 6", impl.Op{Kind: 1, Name: "D", N: 6}},
		{"write B 0 a", impl.Op{Kind: 2, Name: "B", N: 0, Text: "a"}},
		{"write C 5 dcba", impl.Op{Kind: 2, Name: "C", N: 5, Text: "dcba"}},
		{"free A 0", impl.Op{Kind: 2, Name: "A", N: 0}},
		{"free D 5", impl.Op{Kind: 2, Name: "D", N: 5}},
		{"clone A B", impl.Op{Kind: 3, Name: "A", To: "B"}},
		{"clone C C", impl.Op{Kind: 3, Name: "C", To: "C"}},
		{"gone D", impl.Op{Kind: 4, Name: "D"}},
	} {
		checkRead(t, c.text, c.want, true)
		if got := impl.OpText(c.want); got != c.text {
			t.Errorf("%v: %q", c.want, got)
		}
	}
}

// P39: with any field of any other value an operation is valid, and has a text, exactly if it is one of all operations.
func TestOpOkOfChangedFields(t *testing.T) {
	all := opTexts()
	check := func(o impl.Op) {
		t.Helper()
		text, is := all[o]
		if ok, got := impl.OpOk(o), impl.OpText(o); ok != is || got != text {
			t.Fatalf("%.60q: %v %q", o.Name+" "+o.To+" "+o.Text, ok, got)
		}
	}
	names := append(append(volNames(), noVolNames()...), "a", "make", "-", "0")
	texts := append(append(noPieces(), "", "a", "dddd", "free"), volNames()...)
	for _, was := range givenOps() {
		for _, kind := range []int{math.MinInt, -1, 0, 1, 2, 3, 4, 5, 6, 257, 258, 1<<32 + 1, math.MaxInt} {
			o := was
			o.Kind = kind
			check(o)
		}
		for _, name := range names {
			o := was
			o.Name = name
			check(o)
			o = was
			o.To = name
			check(o)
		}
		for _, n := range append(noBlockIndexes(), 0, 1, 2, 3, 4, 5, 8, 9, 10, 257, 1<<32+1) {
			o := was
			o.N = n
			check(o)
		}
		for _, text := range texts {
			o := was
			o.Text = text
			check(o)
		}
	}
}

// P39: operations that are none, written out by hand.
func TestOpOkOfNoOperations(t *testing.T) {
	for _, o := range []impl.Op{
		{}, {Kind: impl.OpMake}, {Kind: impl.OpWrite}, {Kind: impl.OpClone}, {Kind: impl.OpGone}, {Name: "A"}, {Kind: 5, Name: "A"},
		makeOp("A", 0), makeOp("A", 7), makeOp("A", -1), makeOp("", 1), makeOp("E", 1), makeOp("a", 1),
		{Kind: impl.OpMake, Name: "A", N: 1, To: "B"}, {Kind: impl.OpMake, Name: "A", N: 1, Text: "a"},
		writeOp("A", -1, "a"), writeOp("A", 6, "a"), writeOp("A", 6, ""), writeOp("", 0, "a"), writeOp("E", 0, ""),
		writeOp("A", 0, "e"), writeOp("A", 0, "aaaaa"), writeOp("A", 0, "-"), writeOp("A", 0, " "),
		{Kind: impl.OpWrite, Name: "A", N: 0, Text: "a", To: "B"}, {Kind: impl.OpWrite, Name: "A", N: 0, To: "A"},
		cloneOp("A", ""), cloneOp("", "A"), cloneOp("A", "E"), cloneOp("E", "A"), cloneOp("AB", "C"),
		{Kind: impl.OpClone, Name: "A", To: "B", N: 1}, {Kind: impl.OpClone, Name: "A", To: "B", Text: "a"},
		goneOp(""), goneOp("E"), {Kind: impl.OpGone, Name: "A", To: "B"}, {Kind: impl.OpGone, Name: "A", N: 1}, {Kind: impl.OpGone, Name: "A", N: -1},
		{Kind: impl.OpGone, Name: "A", Text: "a"}, {Kind: impl.OpGone, To: "A"},
	} {
		if impl.OpOk(o) || impl.OpText(o) != "" {
			t.Errorf("%v: %q", o, impl.OpText(o))
		}
	}
}

// noOpTexts are texts of no operation.
func noOpTexts() []string {
	return []string{
		"", " ", "make", "make ", "make A", "make A ", "make 3 A", "make A B", "make  3", "make A3", "makeA 3",
		"make A 0", "make A 7", "make A -1", "make A 10", "make A 01", "make A 001", "make A 00", "make A +1", "make A -0", "make A 1.0",
		"make A 0x1", "make A 1_0", "make A 1e0", "make A 1a", "make A one", "make A 99999999999999999999", "make A 257", "make A \u0661",
		"make A 3 ", " make A 3", "make  A 3", "make A  3", "make\tA 3", "make A\t3", "make A 3\n", "make A 3\r", "make A 3\x00", "make A 3 a", "make A 3 3",
		"make E 3", "make a 3", "make AB 3", "make - 3", "make \u0391 3", "Make A 3", "MAKE A 3", "mak A 3", "maked A 3", "1 A 3", "create A 3",
		"write A 0", "write A 0 ", "write A 0 -", "write A 6 a", "write A -1 a", "write A 00 a", "write A 01 a", "write A +0 a", "write A -0 a", "write A 10 a",
		"write A a", "write A a 0", "write A  a", "write 0 A a", "write a 0 a", "write E 0 a", "write  0 a", "write A 0 e", "write A 0 A", "write A 0 aaaaa", "write A 0 a ",
		"write A 0  a", "write A 0 a a", "write A 0 a b", "write A 0 a\n", "write A 0 free", "write A 0 \"a\"", "write", "write A", "write A  ", "write A 0 \xff",
		"free", "free A", "free A ", "free A 6", "free A -1", "free A 00", "free A 05", "free A +5", "free A 5 ", "free A  5", "free A 0 a", "free A 0 -", "free E 0", "free A x",
		"clone", "clone A", "clone A ", "clone A B ", "clone  A B", "clone A  B", "clone A B C", "clone A B 0", "clone A E", "clone E A", "clone a b", "clone AB", "clone A, B", "clone B 1",
		"gone", "gone ", "gone A ", "gone  A", "gone E", "gone a", "gone A B", "gone A 0", "gone AA", "goneA", "gone A\n", "go A", "A gone",
		"read A 0", "see 1", "what", "calm", "turn", "bring 0", "drop A 0", "put A 0 a", "make A 3\nmake B 3", "make A 3 make B 3",
		"make A 0000000000001", "write A 0000000000 ab", "gone A" + strings.Repeat(" ", 14), "gone A" + strings.Repeat(" ", 15),
		"make A 1" + strings.Repeat(" ", 12), strings.Repeat(" ", 20), strings.Repeat(" ", 21), strings.Repeat("a", 21), "write A 0 " + strings.Repeat("a", 11),
		strings.Repeat("make A 1 ", 1000), strings.Repeat(" ", 100000), strings.Repeat("x", 100000),
	}
}

// P37: texts that are cut or longer, with blanks or words too many, with other numbers, names and words, are read as nothing.
func TestOpReadOfNoOperation(t *testing.T) {
	for _, text := range noOpTexts() {
		checkRead(t, text, impl.Op{}, false)
	}
}

// P37, P38: with any byte changed, added or left out a text is read exactly if it is that of an operation, and as this one.
func TestOpReadOfChangedTexts(t *testing.T) {
	texts := textOps()
	check := func(text string) {
		t.Helper()
		want, is := texts[text]
		checkRead(t, text, want, is)
	}
	for _, o := range givenOps() {
		text := impl.OpText(o)
		for i := range len(text) + 1 {
			check(text[:i])
			check(text[i:])
			for b := range 256 {
				letter := string([]byte{byte(b)})
				check(text[:i] + letter + text[i:])
				if i < len(text) {
					check(text[:i] + letter + text[i+1:])
				}
			}
			if i < len(text) {
				check(text[:i] + text[i+1:])
			}
		}
	}
}

// P37: with any words, at most five, a text is read exactly if it is that of an operation.
func TestOpReadOfAnyWords(t *testing.T) {
	texts := textOps()
	words := []string{"", "make", "write", "free", "clone", "gone", "A", "D", "0", "6", "05", "-1", "ab"}
	found := 0
	var check func(text string, left int)
	check = func(text string, left int) {
		want, is := texts[text]
		checkRead(t, text, want, is)
		if is {
			found++
		}
		if left == 0 {
			return
		}
		for _, word := range words {
			check(text+" "+word, left-1)
		}
	}
	for _, word := range words {
		check(word, 4)
	}
	if want := 2 + 2 + 2 + 4 + 2; found != want {
		t.Errorf("%d found, not %d", found, want)
	}
}

// P42: without its last byte a text is not the same operation, and with a further blank, on either side, it is none.
func TestOpReadOfCutTexts(t *testing.T) {
	texts := textOps()
	for text, o := range texts {
		cut := text[:len(text)-1]
		want, is := texts[cut]
		if is && want == o {
			t.Fatalf("%q and %q", text, cut)
		}
		checkRead(t, cut, want, is)
		checkRead(t, text+" ", impl.Op{}, false)
		checkRead(t, " "+text, impl.Op{}, false)
	}
	for _, name := range volNames() {
		checkRead(t, "write "+name+" 3 ab", writeOp(name, 3, "ab"), true)
		checkRead(t, "write "+name+" 3 a", writeOp(name, 3, "a"), true)
	}
}

// wantDo is what the function of the pool returns that an operation stands for.
func wantDo(p impl.Pool, o impl.Op) (impl.Pool, bool) {
	switch o.Kind {
	case impl.OpMake:
		return impl.PoolMake(p, o.Name, o.N)
	case impl.OpWrite:
		return impl.PoolWrite(p, o.Name, o.N, o.Text)
	case impl.OpClone:
		return impl.PoolClone(p, o.Name, o.To)
	}
	return impl.PoolGone(p, o.Name)
}

// someOps are operations of all kinds and volumes, with pieces that p has, with others, and with none.
func someOps(p impl.Pool) []impl.Op {
	out := givenOps()
	for _, name := range volNames() {
		for _, to := range volNames() {
			out = append(out, cloneOp(name, to))
		}
		for _, n := range []int{0, 1, 5} {
			out = append(out, makeOp(name, n+1))
			for _, text := range []string{"", "a", "dd", p.Slots[0].Text, p.Slots[7].Text, freshPiece(p)} {
				out = append(out, writeOp(name, n, text))
			}
		}
		out = append(out, goneOp(name))
	}
	return out
}

// P40: an operation does what the function of its kind does, possible or not; the pool stays valid.
func TestOpDo(t *testing.T) {
	done, not := map[int]int{}, map[int]int{}
	for _, p := range pools() {
		for _, o := range someOps(p) {
			want, wantOk := wantDo(p, o)
			out, ok := impl.OpDo(p, o)
			checkResult(t, impl.OpText(o), out, ok, want, wantOk)
			if ok {
				done[o.Kind]++
				continue
			}
			not[o.Kind]++
			if !samePool(out, p) {
				t.Fatalf("%v is not possible in %v: %v", o, p, out)
			}
		}
	}
	for kind := impl.OpMake; kind <= impl.OpGone; kind++ {
		if done[kind] < 20 || not[kind] < 20 {
			t.Errorf("kind %d: %d possible, %d not", kind, done[kind], not[kind])
		}
	}
}

// P40: what operations do, one after the other, by hand.
func TestOpDoStepByStep(t *testing.T) {
	p := impl.PoolNew()
	for _, c := range []struct {
		text, want string
		ok         bool
	}{
		{"write A 0 a", "", false},
		{"make A 2", "A - -\n", true},
		{"make A 6", "A - -\n", false},
		{"write A 1 ab", "A - ab\n", true},
		{"write A 2 ab", "A - ab\n", false},
		{"clone B C", "A - ab\n", false},
		{"clone A A", "A - ab\n", false},
		{"clone A C", "A - ab\nC - ab\n", true},
		{"free A 1", "A - -\nC - ab\n", true},
		{"free A 1", "A - -\nC - ab\n", true},
		{"write C 0 dddd", "A - -\nC dddd ab\n", true},
		{"gone B", "A - -\nC dddd ab\n", false},
		{"gone A", "C dddd ab\n", true},
		{"gone A", "C dddd ab\n", false},
	} {
		o, read := impl.OpRead(c.text)
		out, ok := impl.OpDo(p, o)
		if got := impl.PoolText(out); !read || ok != c.ok || got != c.want || !ok && !samePool(out, p) {
			t.Fatalf("%s: %q %v", c.text, got, ok)
		}
		p = out
	}
}

// P40: with an invalid pool or an invalid operation, or both, there is no pool.
func TestOpDoOfInvalidArguments(t *testing.T) {
	zero := func(what string, p impl.Pool, o impl.Op) {
		t.Helper()
		if out, ok := impl.OpDo(p, o); ok || !zeroPool(out) {
			t.Errorf("%.40s: %v: %v %v", what, o, out, ok)
		}
	}
	// Each of these would be possible, or at least return the pool, if fields that the kind does not have did not matter.
	invalid := []impl.Op{
		{}, {Name: "A"}, {Kind: 5, Name: "A"}, {Kind: -1, Name: "A"},
		{Kind: impl.OpMake, Name: "B", N: 1, To: "C"}, {Kind: impl.OpMake, Name: "B", N: 1, Text: "a"}, makeOp("B", 0), makeOp("B", 7), makeOp("E", 1), makeOp("", 1),
		{Kind: impl.OpWrite, Name: "A", Text: "a", To: "A"}, writeOp("A", 0, "e"), writeOp("A", 6, "a"), writeOp("A", -1, ""), writeOp("", 0, "a"),
		{Kind: impl.OpClone, Name: "A", To: "B", N: 1}, {Kind: impl.OpClone, Name: "A", To: "B", Text: "a"}, cloneOp("A", ""), cloneOp("A", "E"), cloneOp("", "B"),
		{Kind: impl.OpGone, Name: "A", To: "A"}, {Kind: impl.OpGone, Name: "A", N: 1}, {Kind: impl.OpGone, Name: "A", Text: "a"}, goneOp("E"), goneOp(""),
	}
	for what, p := range noPools() {
		for _, o := range append(givenOps(), invalid...) {
			zero(what, p, o)
		}
	}
	for _, p := range append(pools(), poolOf(nil, vol("A", 0))) {
		for _, o := range invalid {
			zero("a pool", p, o)
		}
	}
}

// names are the volumes that an operation names.
func names(o impl.Op) []string {
	return []string{o.Name, o.To}
}

// P41: an operation, and a write to a volume that it does not name, give the same in either order, if both orders are possible.
func TestOpDoInEitherOrder(t *testing.T) {
	compared := 0
	next := numbers(41)
	for _, p := range pools() {
		ops := slices.DeleteFunc(someOps(p), func(o impl.Op) bool { _, ok := impl.OpDo(p, o); return !ok })
		for _, o := range ops {
			for _, w := range ops {
				if w.Kind != impl.OpWrite || slices.Contains(names(o), w.Name) || next(20) > 0 {
					continue
				}
				a, _ := impl.OpDo(p, o)
				a, aOk := impl.OpDo(a, w)
				b, _ := impl.OpDo(p, w)
				b, bOk := impl.OpDo(b, o)
				if !aOk || !bOk {
					continue
				}
				compared++
				if !sameReads(reads(a), reads(b)) {
					t.Fatalf("%v and %v in %v: %v and %v", o, w, p, a, b)
				}
			}
		}
	}
	if compared < 1000 {
		t.Error("too few orders are possible:", compared)
	}
}

// P43: what creates, clones or deletes a volume fails if it is repeated; a write succeeds again, and reads the same.
func TestOpDoAgain(t *testing.T) {
	for _, p := range pools() {
		for _, o := range someOps(p) {
			one, ok := impl.OpDo(p, o)
			if !ok {
				continue
			}
			two, ok := impl.OpDo(one, o)
			if ok != (o.Kind == impl.OpWrite) || !sameReads(reads(two), reads(one)) || !ok && !samePool(two, one) {
				t.Fatalf("%v twice in %v: %v and %v %v", o, p, one, two, ok)
			}
		}
	}
}

// P18, P40: a long run of operations, each read back from its text, keeps the pool valid.
func TestOpDoWalk(t *testing.T) {
	next := numbers(12)
	p := impl.PoolNew()
	for range 3000 {
		ops := someOps(p)
		o, ok := impl.OpRead(impl.OpText(ops[next(len(ops))]))
		if !ok {
			t.Fatal(ops)
		}
		want, wantOk := wantDo(p, o)
		out, ok := impl.OpDo(p, o)
		checkResult(t, impl.OpText(o), out, ok, want, wantOk)
		p = out
	}
}

// General rule: OpDo does not change its argument, possible or not, and its results share no memory with it or one another.
func TestOpDoSharesNoMemory(t *testing.T) {
	samples := append(pools()[:15], noPools()["a count of 99"], noPools()["a volume twice"])
	for i, p := range samples {
		arg := roomyPool(p)
		before := poolCopy(wholePool(arg))
		for _, o := range append(someOps(p), impl.Op{}, makeOp("A", 7)) {
			one, _ := impl.OpDo(arg, o)
			two, _ := impl.OpDo(arg, o)
			kept := poolCopy(two)
			if scratchPool(one) {
				t.Fatalf("%v in pool %d: volumes share memory", o, i)
			}
			if !samePool(two, kept) {
				t.Fatalf("%v in pool %d: two results share memory", o, i)
			}
			if !samePool(wholePool(arg), before) {
				t.Fatalf("%v changes its argument, pool %d", o, i)
			}
		}
	}
}
