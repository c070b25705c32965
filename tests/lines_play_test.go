package tests

import (
	"fmt"
	"regexp"
	"slices"
	"strings"
	"sync"
	"testing"

	"loop.example/garner/impl"
)

// lineStep is a line, what it prints, the lines of the nodes after it, and how many operations are acknowledged then.
type lineStep struct {
	line, printed, one, two string
	done                    int
}

// checkSteps checks what a script gives after each of its lines.
func checkSteps(t *testing.T, steps []lineStep) {
	t.Helper()
	script, printed := "", ""
	for _, s := range steps {
		script, printed = script+s.line+"\n", printed+s.printed
		checkLines(t, script, fmt.Sprintf("%s1 %s\n2 %s\ndone %d\n", printed, s.one, s.two, s.done))
	}
}

// P97: node 2 has all operations after a quiet round; those accepted then are acknowledged once both nodes have them.
func TestLinesOfTwoNodes(t *testing.T) {
	checkSteps(t, []lineStep{
		{"make A 2", "", "up leads alone 1 1", "up 0 0", 1},
		{"write A 1 ab", "", "up leads alone 1 2", "up 0 0", 2},
		{"see 2", "", "up leads alone 1 2", "up 0 0", 2},
		{"calm", "", "up leads 1 2", "up 1 2", 2},
		{"see 2", "A - ab\n", "up leads 1 2", "up 1 2", 2},
		{"write A 0 cd", "", "up leads 1 3", "up 1 2", 2},
		{"see 1", "A cd ab\n", "up leads 1 3", "up 1 2", 2},
		{"see 2", "A - ab\n", "up leads 1 3", "up 1 2", 2},
		{"bring 0", "", "up leads 1 3", "up 1 3", 2},
		{"see 2", "A cd ab\n", "up leads 1 3", "up 1 3", 2},
		{"bring 0", "", "up leads 1 3", "up 1 3", 3},
		{"gone A", "", "up leads 1 4", "up 1 3", 3},
		{"lose 0", "", "up leads 1 4", "up 1 3", 3},
		{"make B 1", "", "up leads 1 5", "up 1 3", 3},
		{"bring 0", "", "up leads 1 5", "up 1 3", 3},
		{"calm", "", "up leads 1 5", "up 1 5", 5},
		{"see 2", "B -\n", "up leads 1 5", "up 1 5", 5},
		{"make C 1", "", "up leads 1 6", "up 1 5", 5},
		{"calm", "", "up leads 1 6", "up 1 6", 6},
	})
}

// P98: after a quiet round, a stop and a takeover, node 2 leads and accepts operations; node 1, running again, has them after a quiet round.
func TestLinesOfATakeover(t *testing.T) {
	checkSteps(t, []lineStep{
		{"make A 1", "", "up leads alone 1 1", "up 0 0", 1},
		{"write A 0 a", "", "up leads alone 1 2", "up 0 0", 2},
		{"fall 1", "", "down leads alone 1 2", "up 0 0", 2},
		{"turn", "", "down leads alone 1 2", "up 0 0", 2},
		{"rise 1", "", "up leads alone 1 2", "up 0 0", 2},
		{"calm", "", "up leads 1 2", "up 1 2", 2},
		{"fall 1", "", "down leads 1 2", "up 1 2", 2},
		{"make B 1", "", "down leads 1 2", "up 1 2", 2},
		{"turn", "", "down leads 1 2", "up leads alone 2 2", 2},
		{"write A 0 b", "", "down leads 1 2", "up leads alone 2 3", 3},
		{"see 1", "A a\n", "down leads 1 2", "up leads alone 2 3", 3},
		{"see 2", "A b\n", "down leads 1 2", "up leads alone 2 3", 3},
		{"clone A B", "", "down leads 1 2", "up leads alone 2 4", 4},
		{"rise 1", "", "up leads 1 2", "up leads alone 2 4", 4},
		{"turn", "", "up leads 1 2", "up leads alone 2 4", 4},
		{"alone", "", "up leads 1 2", "up leads alone 2 4", 4},
		{"calm", "", "up 2 4", "up leads 2 4", 4},
		{"see 1", "A b\nB b\n", "up 2 4", "up leads 2 4", 4},
		{"gone B", "", "up 2 4", "up leads 2 5", 4},
		{"bring 0", "", "up 2 5", "up leads 2 5", 4},
		{"bring 0", "", "up 2 5", "up leads 2 5", 5},
		{"alone", "", "up 2 5", "up leads alone 3 5", 5},
		{"turn", "", "up 2 5", "up leads alone 3 5", 5},
		{"calm", "", "up 3 5", "up leads 3 5", 5},
		{"turn", "", "up leads alone 4 5", "up leads 3 5", 5},
		{"alone", "", "up leads alone 4 5", "up leads 3 5", 5},
		{"make D 1", "", "up leads alone 4 6", "up leads 3 5", 6},
		{"see 2", "A b\n", "up leads alone 4 6", "up leads 3 5", 6},
		{"fall 2", "", "up leads alone 4 6", "down leads 3 5", 6},
		{"calm", "", "up leads 4 6", "up 4 6", 6},
	})
}

// P98: what the previous leader accepted and could not tell is gone after the takeover, and was not acknowledged.
func TestLinesOfWhatWasNotTold(t *testing.T) {
	checkSteps(t, []lineStep{
		{"make A 1", "", "up leads alone 1 1", "up 0 0", 1},
		{"calm", "", "up leads 1 1", "up 1 1", 1},
		{"write A 0 c", "", "up leads 1 2", "up 1 1", 1},
		{"turn", "", "up leads 1 2", "up leads alone 2 1", 1},
		{"bring 0", "", "up leads 1 2", "up leads alone 2 1", 1},
		{"see 1", "A c\n", "up leads 1 2", "up leads alone 2 1", 1},
		{"join", "", "up leads 1 2", "up leads alone 2 1", 1},
		{"bring 0", "", "up 2 1", "up leads alone 2 1", 1},
		{"see 1", "A -\n", "up 2 1", "up leads alone 2 1", 1},
		{"bring 0", "", "up 2 1", "up leads 2 1", 1},
		{"write A 0 d", "", "up 2 1", "up leads 2 2", 1},
		{"twice 0", "", "up 2 1", "up leads 2 2", 1},
		{"lose 0", "", "up 2 1", "up leads 2 2", 1},
		{"bring 0", "", "up 2 2", "up leads 2 2", 1},
		{"bring 0", "", "up 2 2", "up leads 2 2", 2},
	})
}

// blocksLine is the line of a volume that reads these pieces.
func blocksLine(name string, blocks []string) string {
	out := name
	for _, text := range blocks {
		if text == "" {
			text = "-"
		}
		out += " " + text
	}
	return out + "\n"
}

// P96: a volume that is created and written is printed block by block; a clone reads as it and stays unchanged.
func TestLinesOfVolumes(t *testing.T) {
	next := numbers(96)
	for _, name := range volNames() {
		for size := 1; size <= impl.BlockMax; size++ {
			script, blocks, ops := fmt.Sprintf("make %s %d\n", name, size), make([]string, size), 1
			printed := ""
			for range size {
				at, text := next(size), pieceSample()[next(len(pieceSample()))]
				if text == "" {
					continue
				}
				blocks[at] = text
				script, ops = script+fmt.Sprintf("write %s %d %s\nsee 1\n", name, at, text), ops+1
				printed += blocksLine(name, blocks)
			}
			end := func(ops int) string { return fmt.Sprintf("1 up leads alone 1 %d\n2 up 0 0\ndone %d\n", ops, ops) }
			checkLines(t, script, printed+end(ops))
			to := volNames()[(slices.Index(volNames(), name)+1+next(3))%4]
			script, ops = script+fmt.Sprintf("clone %s %s\nsee 1\n", name, to), ops+1
			both := func(one, two []string) string {
				lines := []string{blocksLine(name, one), blocksLine(to, two)}
				slices.Sort(lines)
				return strings.Join(lines, "")
			}
			printed += both(blocks, blocks)
			checkLines(t, script, printed+end(ops))
			for at := range size {
				changed := slices.Clone(blocks)
				changed[at] = "dcba"
				checkLines(t, script+fmt.Sprintf("write %s %d dcba\nsee 1\n", name, at), printed+both(changed, blocks)+end(ops+1))
				checkLines(t, script+fmt.Sprintf("write %s %d dcba\nsee 1\n", to, at), printed+both(blocks, changed)+end(ops+1))
				changed[at] = ""
				checkLines(t, script+fmt.Sprintf("free %s %d\nsee 1\n", name, at), printed+both(changed, blocks)+end(ops+1))
			}
			checkLines(t, script+fmt.Sprintf("gone %s\nsee 1\n", name), printed+blocksLine(to, blocks)+end(ops+1))
			checkLines(t, script+fmt.Sprintf("gone %s\nsee 1\n", to), printed+blocksLine(name, blocks)+end(ops+1))
		}
	}
}

// P99: one piece can be written to all blocks of all volumes, with room for as many more pieces as there are other slots.
func TestLinesOfOnePieceManyTimes(t *testing.T) {
	script := "make A 6\nmake B 6\n"
	for _, name := range []string{"A", "B"} {
		for at := range impl.BlockMax {
			script += fmt.Sprintf("write %s %d abcd\n", name, at)
		}
	}
	full := " abcd abcd abcd abcd abcd abcd\n"
	checkLines(t, script+"see 1\n", "A"+full+"B"+full+"1 up leads alone 1 14\n2 up 0 0\ndone 14\n")
	script += "clone A C\nclone B D\n"
	checkLines(t, script+"see 1\n", "A"+full+"B"+full+"C"+full+"D"+full+"1 up leads alone 1 16\n2 up 0 0\ndone 16\n")
	checkLines(t, script+"write D 0 a\nwrite D 1 b\nwrite D 5 c\nwrite C 0 d\nsee 1\n",
		"A"+full+"B"+full+"C d abcd abcd abcd abcd abcd\nD a b abcd abcd abcd c\n1 up leads alone 1 20\n2 up 0 0\ndone 20\n")
}

// P99: there can be as many pieces as there are slots, and not one more until one of them is gone.
func TestLinesOfAsManyPiecesAsSlots(t *testing.T) {
	for _, pieces := range [][]string{fullPieces, {"a", "b", "c", "d", "aa", "bb", "cc", "dd"}, {"abcd", "dcba", "aaaa", "dddd", "abc", "ab", "a", "d"}} {
		script, blocks := "make A 6\nmake B 6\n", [2][6]string{}
		for i, piece := range pieces {
			script += fmt.Sprintf("write %s %d %s\n", volNames()[i/6], i%6, piece)
			blocks[i/6][i%6] = piece
		}
		check := func(more string, ops int, at int, text string) {
			t.Helper()
			after := blocks
			after[at/6][at%6] = text
			printed := blocksLine("A", after[0][:]) + blocksLine("B", after[1][:])
			checkLines(t, script+more+"see 1\n", fmt.Sprintf("%s1 up leads alone 1 %d\n2 up 0 0\ndone %d\n", printed, ops, ops))
		}
		last := pieces[impl.SlotMax-1]
		check("", 10, 7, last)
		// One more, and one that is there already.
		check("write B 2 adad\n", 10, 8, "")
		check("write B 2 "+pieces[0]+"\n", 11, 8, pieces[0])
		check("write B 2 adad\nwrite B 2 "+last+"\n", 11, 8, last)
		// In place of one, and in place of one that another block has, too.
		check("write B 1 adad\n", 11, 7, "adad")
		check("write B 2 "+last+"\nwrite B 1 adad\n", 11, 8, last)
		// After one is gone.
		check("free B 1\nwrite B 1 adad\n", 12, 7, "adad")
		checkLines(t, script+"write B 2 adad\ngone A\nwrite B 2 adad\nsee 1\n",
			blocksLine("B", []string{pieces[6], pieces[7], "adad", "", "", ""})+"1 up leads alone 1 12\n2 up 0 0\ndone 12\n")
	}
}

// someNumber is a word that may be a number.
func someNumber(next func(int) int) string {
	words := []string{"0", "0", "0", "1", "1", "2", "00", "01", "02", "3", "11", "12", "", "001", "-1", "x"}
	return words[next(len(words))]
}

// junkLine is a line of a command that may be cut, be capitalized, or have a further byte or word.
func junkLine(line string, next func(int) int) string {
	at := next(len(line) + 1)
	switch next(6) {
	case 0:
		return line[:at]
	case 1:
		return line[at:]
	case 2:
		return strings.ToUpper(line)
	case 3:
		return line[:at] + " " + line[at:]
	case 4:
		return line[:at] + string([]byte{byte(next(256))}) + line[at:]
	}
	return line + " " + someNumber(next)
}

// someScriptLine is a line that may do something in a run.
func someScriptLine(w impl.World, next func(int) int) string {
	line := ""
	switch next(12) {
	case 0, 1, 2, 3:
		line = impl.OpText(someAsk(w, next).Op)
	case 4, 5, 6:
		line = "bring " + someNumber(next)
	case 7:
		line = []string{"lose", "twice", "rise", "fall"}[next(4)] + " " + someNumber(next)
	case 8:
		line = "see " + someNumber(next)
	case 9:
		line = []string{"turn", "alone", "calm"}[next(3)]
	case 10:
		line = "calm"
	case 11:
		line = "join"
	}
	if next(15) == 0 {
		return junkLine(line, next)
	}
	return line
}

// someScripts are scripts of any length, most of them not too long.
var someScripts = sync.OnceValue(func() []string {
	next := numbers(31)
	out := []string{"", "\n", "hello\n"}
	for range 400 {
		script, w, size := "", impl.WorldNew(), 1+next(scriptMax+30)
		for len(script) < size {
			line := someScriptLine(w, next)
			for part := range strings.SplitSeq(line, "\n") {
				w, _ = wantLine(w, part)
			}
			script += line + "\n"
		}
		if next(3) == 0 {
			script = script[:max(0, len(script)-1-next(4))]
		}
		out = append(out, script)
	}
	return out
})

// P95 to P100: scripts of any lines give what they must, and the scripts are not poor.
func TestLinesOfAnyScript(t *testing.T) {
	seen := map[string]int{}
	for _, script := range someScripts() {
		out := checkModel(t, script)
		w, printed := wantRun(script)
		for what, is := range map[string]bool{
			"too long": out == tooLong, "what": strings.Contains(printed, "what\n"), "read": strings.Contains(printed, "A "),
			"node 2 leads": w.Lead == 2, "both": w.Both, "a later term": w.Term > 3, "a node is down": !w.Nodes[0].Up || !w.Nodes[1].Up,
			"a previous leader": w.Nodes[0].Leads && w.Nodes[1].Leads, "many operations": len(w.Done) > 10, "not acknowledged": len(w.Nodes[w.Lead-1].Ops) > len(w.Done),
			"no newline at the end": !strings.HasSuffix(script, "\n"), "in transit": len(w.Nets) > 0,
		} {
			if is {
				seen[what]++
			}
		}
	}
	for _, what := range []string{"too long", "what", "read", "node 2 leads", "both", "a later term", "a node is down", "a previous leader", "many operations",
		"not acknowledged", "no newline at the end", "in transit"} {
		if seen[what] < 15 {
			t.Errorf("%d scripts of %q", seen[what], what)
		}
	}
}

// P95: whatever a script has printed, three lines with newlines follow, with nothing but the words that they may have.
func TestLastLines(t *testing.T) {
	form := regexp.MustCompile(`^1 (up|down)( leads)?( alone)? (0|[1-9][0-9]?) (0|[1-9][0-9]?)\n` + `2 (up|down)( leads)?( alone)? (0|[1-9][0-9]?) (0|[1-9][0-9]?)\n` + `done (0|[1-9][0-9]?)\n$`)
	printedLine := regexp.MustCompile(`^(what|[ABCD]( -| [abcd]{1,4}){1,6})$`)
	for _, script := range someScripts() {
		out := impl.LinesRun(script)
		if len(script) > scriptMax {
			if out != tooLong {
				t.Fatalf("%q is too long: %q", script, out)
			}
			continue
		}
		last := lastLines(out)
		if !form.MatchString(last) {
			t.Fatalf("%q ends with %q", script, last)
		}
		printed := strings.Split(out[:len(out)-len(last)], "\n")
		for _, line := range printed[:len(printed)-1] {
			if !printedLine.MatchString(line) {
				t.Fatalf("%q prints %q", script, line)
			}
		}
		if rest := printed[len(printed)-1]; rest != "" {
			t.Fatalf("%q prints %q without a newline", script, rest)
		}
	}
}

// P101: lines that see or that are unknown, after a script, leave the last lines as they were, unless it becomes too long.
func TestLinesThatChangeNothing(t *testing.T) {
	tooLongs := 0
	for _, script := range someScripts() {
		// What follows the last newline would be a part of the line that is added.
		script = script[:strings.LastIndex(script, "\n")+1]
		out := impl.LinesRun(script)
		last := lastLines(out)
		for _, more := range []string{"see 1\n", "see 2\n", "see 01\n", "see\n", "see 3\n", "what\n", "hello\n", "\n", "see", "what", "see 1", "see 1\nsee 2\nwhat\nsee 1\n"} {
			got := impl.LinesRun(script + more)
			if len(script+more) > scriptMax {
				if got != tooLong {
					t.Fatalf("%q is too long: %q", script+more, got)
				}
				tooLongs++
				continue
			}
			if lastLines(got) != last || !strings.HasPrefix(got, strings.TrimSuffix(out, last)) {
				t.Fatalf("%q: %q, and with %q: %q", script, out, more, got)
			}
		}
	}
	if tooLongs < 50 {
		t.Error(tooLongs, "are too long")
	}
}

// P95: a further line changes nothing that was printed before it.
func TestLinesPrintInOrder(t *testing.T) {
	for i, script := range someScripts() {
		if i%8 > 0 || len(script) > scriptMax {
			continue
		}
		printed := ""
		for at := range len(script) {
			out := impl.LinesRun(script[:at+1])
			if !strings.HasPrefix(out, printed) {
				t.Fatalf("%q prints %q, after %q", script[:at+1], out, printed)
			}
			printed = strings.TrimSuffix(out, lastLines(out))
		}
	}
}
