package tests

import (
	"fmt"
	"slices"
	"strings"
	"sync"
	"testing"

	"loop.example/garner/impl"
)

// scriptMax is the greatest number of bytes of a script.
const scriptMax = 600

// startLines are the last lines where nothing has happened, and tooLong is all that a script that is too long gives.
const (
	startLines = "1 up leads alone 1 0\n2 up 0 0\ndone 0\n"
	tooLong    = "too long\n"
)

// lineNumbers are all words that are numbers.
var lineNumbers = sync.OnceValue(func() map[string]int {
	out := map[string]int{}
	for n := range 100 {
		out[fmt.Sprintf("%d", n)], out[fmt.Sprintf("%02d", n)] = n, n
	}
	return out
})

// lineOps are all lines that are operations.
var lineOps = sync.OnceValue(textOps)

// lineEvents are the kinds of events that a first word applies.
func lineEvents() map[string]int {
	return map[string]int{
		"bring": impl.EvBring, "lose": impl.EvLose, "twice": impl.EvTwice, "fall": impl.EvFall, "rise": impl.EvRise,
		"turn": impl.EvTurn, "alone": impl.EvAlone, "join": impl.EvJoin,
	}
}

// wantLine is what a line must make of a run, and what it must print.
func wantLine(w impl.World, line string) (impl.World, string) {
	if o, ok := lineOps()[line]; ok {
		return impl.WorldDo(w, impl.Event{Kind: impl.EvAsk, A: w.Lead, Op: o}), ""
	}
	first, others, _ := strings.Cut(line, " ")
	second, _, _ := strings.Cut(others, " ")
	n, isNumber := lineNumbers()[second]
	if !isNumber {
		n = -1
	}
	kind, isEvent := lineEvents()[first]
	switch {
	case isEvent:
		return impl.WorldDo(w, impl.Event{Kind: kind, A: n}), ""
	case first == "calm":
		return impl.WorldCalm(w, 1), ""
	case first == "see" && (n == 1 || n == 2):
		return w, impl.PoolText(impl.NodePool(w.Nodes[n-1]))
	}
	return w, "what\n"
}

// wantEnd are the last lines of a run.
func wantEnd(w impl.World) string {
	out := ""
	for i, n := range w.Nodes {
		text := "down"
		if n.Up {
			text = "up"
		}
		if n.Leads {
			text += " leads"
		}
		if n.Alone {
			text += " alone"
		}
		out += fmt.Sprintf("%d %s %d %d\n", i+1, text, n.Term, len(n.Ops))
	}
	return out + fmt.Sprintf("done %d\n", len(w.Done))
}

// wantRun is what a script must make of a new run, and what it must print, without the last lines.
func wantRun(script string) (impl.World, string) {
	w, out := impl.WorldNew(), ""
	for {
		line, rest, ended := strings.Cut(script, "\n")
		if !ended {
			return w, out
		}
		var printed string
		w, printed = wantLine(w, line)
		script, out = rest, out+printed
	}
}

// wantLines is what a script must give.
func wantLines(script string) string {
	if len(script) > scriptMax {
		return tooLong
	}
	w, out := wantRun(script)
	return out + wantEnd(w)
}

// checkLines runs a script, and compares what it gives with what it must give, which the model must give, too.
func checkLines(t *testing.T, script, want string) {
	t.Helper()
	if got := impl.LinesRun(script); got != want {
		t.Fatalf("%.300q gives\n%.600q, not\n%.600q", script, got, want)
	}
	if model := wantLines(script); model != want {
		t.Fatalf("%.300q: the model gives\n%.600q, not\n%.600q", script, model, want)
	}
}

// checkModel runs a script, compares what it gives with what the model gives, and returns it.
func checkModel(t *testing.T, script string) string {
	t.Helper()
	want := wantLines(script)
	checkLines(t, script, want)
	return want
}

// lastLines are the last three lines of what a script has given, or fewer if there are fewer.
func lastLines(out string) string {
	lines := strings.SplitAfter(out, "\n")
	return strings.Join(lines[max(0, len(lines)-4):], "")
}

// P95: an empty script, and one in which no line ends, gives the three lines alone.
func TestLinesRunWithoutLines(t *testing.T) {
	for _, script := range []string{
		"", " ", "see 1", "see", "what", "hello", "make A 1", "calm", "fall 1", "too long", "\r", "\x00", "\xff", "\u2028", "\\n",
		strings.Repeat("x", scriptMax), strings.Repeat(" ", scriptMax),
	} {
		checkLines(t, script, startLines)
	}
}

// P95: what follows the last newline is ignored, whatever it is.
func TestLinesRunIgnoresTheTail(t *testing.T) {
	made := "1 up leads alone 1 1\n2 up 0 0\ndone 1\n"
	checkLines(t, "make A 1\n", made)
	for _, tail := range []string{"make B 1", "gone A", "see 1", "what", "hello", "calm", "fall 1", " ", "\r", "\x00", "\xff"} {
		checkLines(t, "make A 1\n"+tail, made)
		checkLines(t, "see 1\nmake A 1\nsee 1\n"+tail, "A -\n"+made)
		checkLines(t, "make A 1\nhello\n"+tail, "what\n"+made)
	}
}

// P95, P100: 600 bytes are not too long, 601 are, whatever they are, also without a newline.
func TestLinesRunOfLongScripts(t *testing.T) {
	made := "1 up leads alone 1 1\n2 up 0 0\ndone 1\n"
	for script, want := range map[string]string{
		strings.Repeat("\n", 600):                      strings.Repeat("what\n", 600) + startLines,
		strings.Repeat("see 1\n", 100):                 startLines,
		strings.Repeat("calm\n", 120):                  "1 up leads 1 0\n2 up 1 0\ndone 0\n",
		strings.Repeat("calm\nturn\n", 60):             "1 up leads alone 61 0\n2 up leads 60 0\ndone 0\n",
		"make A 1\n" + strings.Repeat("x", 591):        made,
		"make A 1\n" + strings.Repeat("x", 590) + "\n": "what\n" + made,
		strings.Repeat("x", 591) + "make A 1\n":        "what\n" + startLines,
		"see 1" + strings.Repeat(" ", 594) + "\n":      startLines,
		strings.Repeat("\xff", 599) + "\n":             "what\n" + startLines,
		strings.Repeat("\x00", 599) + "\n":             "what\n" + startLines,
	} {
		if len(script) != scriptMax {
			t.Fatalf("%.30q has %d bytes", script, len(script))
		}
		checkLines(t, script, want)
		for _, more := range []string{"\n", " ", "x", "\x00", "\u00e9", "see 1\n", "calm\n", strings.Repeat("\n", 600), strings.Repeat("what\n", 100000)} {
			checkLines(t, script+more, tooLong)
			checkLines(t, more+script, tooLong)
		}
	}
	// The bytes count, not the letters.
	checkLines(t, strings.Repeat("\u00e9", 300), startLines)
	checkLines(t, strings.Repeat("\u00e9", 300)+"e", tooLong)
	checkLines(t, strings.Repeat("\u00e9", 301), tooLong)
}

// whatLines are lines that are neither operations nor commands, or that see no node.
func whatLines() []string {
	return []string{
		"", " ", "  ", "    ", "\t", "\r", "\x00", "\xff", "\xff\xfe", "\u00e9", "\u00a0", "\u2003", "-", "1", "0", "1 2", "1 up", "?", "#", "\"see\" 1",
		" see 1", "  see 1", " calm", " turn", " join", " alone", " bring 0", " fall 1", "\tsee 1", "\u00a0see 1", "\ufeffsee 1",
		"see", "see ", "see  ", "see  1", "see   1", "see 0", "see 00", "see 3", "see 03", "see 10", "see 11", "see 12", "see 20", "see 21", "see 99",
		"see 001", "see 002", "see 010", "see 100", "see 111", "see 257", "see 258", "see 4294967297", "see 18446744073709551617", "see +1", "see -1", "see -0", "see +", "see -",
		"see 1a", "see a1", "see a", "see A", "see 1A", "see node", "see one", "see 1.", "see 1,", "see .1", "see 1_", "see _1", "see 1e", "see 0x1", "see x1",
		"see 1\t", "see\t1", "see 1\r", "see\r", "see 1\x00", "see \x001", "see \xff", "see 1\xff", "see \u0661", "see \u00b9", "see \uff11", "see #1", "see 0 1", "see A 1",
		"See 1", "SEE 1", "sEE 1", "se 1", "s 1", "sees 1", "seen 1", "see1", "see: 1", "see, 1", "saw 1", "eesee 1", "1 see",
		"what", "what 1", "hello", "hello 1", "done", "done 1", "up 1", "down 1", "ask make A 1", "copy 0", "has 1", "joined", "rises 1", "too long",
		"calmly", "cal", "c", "CALM", "Calm", "calm\r", "calm\t", "calm\x00", "calm1", "calm,", "turning", "tur", "Turn", "TURN", "turn1", "turn\r",
		"alon", "alones", "Alone", "ALONE", "alone\t", "joi", "joins", "Join", "JOIN", "join1", "join\xff",
		"bring0", "brin 0", "brings 0", "Bring 0", "BRING 0", "bring\t0", "lose0", "los 0", "loses 0", "loose 0", "Lose 0", "twice0", "twic 0", "twices 0", "Twice 0",
		"fall1", "fal 1", "falls 1", "Fall 1", "FALL 1", "rise1", "ris 1", "Rise 1", "RISE 1", "\x00fall 1", "\xfffall 1",
		"make", "make A", "make A 0", "make A 7", "make A 1 ", " make A 1", "make  A 1", "make A  1", "make A 1 x", "make A 1 1", "make A 01", "make E 1", "make a 1", "Make A 1", "make A 1\r",
		"write", "write A", "write A 0", "write A 0 ", "write A 0 e", "write A 0 a ", "write A 0 a b", "write A 00 a", "write A 6 a", "write A 0 aaaaa", "Write A 0 a",
		"free", "free A", "free A ", "free A 6", "free A 0 ", "free A 0 a", "free A 00", "Free A 0",
		"clone", "clone A", "clone A ", "clone A B ", "clone A B C", "clone A E", "clone  A B", "Clone A B",
		"gone", "gone ", "gone E", "gone A ", "gone A B", "gone  A", "Gone A",
	}
}

// P100: such a line prints "what" and changes nothing, wherever it is.
func TestLinesOfWhat(t *testing.T) {
	for _, line := range whatLines() {
		checkLines(t, line+"\n", "what\n"+startLines)
		checkLines(t, line+"\n"+line+"\n", "what\nwhat\n"+startLines)
		checkLines(t, "make A 2\nwrite A 1 ab\nsee 1\n"+line+"\ncalm\nsee 2\n"+line+"\n",
			"A - ab\nwhat\nA - ab\nwhat\n1 up leads 1 2\n2 up 1 2\ndone 2\n")
	}
}

// P100: a text that is none of an operation is what its first word is; that of an operation with one that cannot be is nothing.
func TestLinesOfNoOperation(t *testing.T) {
	whats := 0
	for _, text := range noOpTexts() {
		if len(text) > 500 {
			continue
		}
		out := checkModel(t, "make A 1\nfall 1\n"+text+"\n")
		whats += strings.Count(out, "what\n")
	}
	if whats < 120 {
		t.Error(whats, "lines are no command")
	}
	for _, text := range []string{
		"make A 1", "make A 6", "write B 0 a", "write A 1 a", "write A 5 dddd", "free B 0", "free A 1", "clone B C", "clone A A", "clone D A", "gone B", "gone D",
	} {
		checkLines(t, "make A 1\nwrite A 0 a\n"+text+"\nsee 1\n", "A a\n1 up leads alone 1 2\n2 up 0 0\ndone 2\n")
	}
}

// P95: each line is a line of its own: two lines are not one, and no other byte ends a line.
func TestLinesAreSplitAtNewlines(t *testing.T) {
	checkLines(t, "make A\n1\n", "what\nwhat\n"+startLines)
	checkLines(t, "see\n1\n", "what\nwhat\n"+startLines)
	checkLines(t, "\nmake A 1\n\nsee 1\n\n", "what\nwhat\nA -\nwhat\n1 up leads alone 1 1\n2 up 0 0\ndone 1\n")
	for _, between := range []string{"\r", "\x00", "\v", "\f", "\u0085", "\u2028", ";", "\\n", " "} {
		checkLines(t, "make A 1"+between+"make B 1\n", "what\n"+startLines)
		checkLines(t, "hello"+between+"hello\n", "what\n"+startLines)
	}
}

// P96: see prints the volumes by ascending names; of a node without volumes it prints nothing.
func TestLinesOfSee(t *testing.T) {
	checkLines(t, "see 1\nsee 2\n", startLines)
	made := "make C 1\nmake A 2\nwrite C 0 abcd\nmake D 6\nwrite A 1 d\nwrite D 5 c\nmake B 1\n"
	text := "A - d\nB -\nC abcd\nD - - - - - c\n"
	end := "1 up leads alone 1 7\n2 up 0 0\ndone 7\n"
	for _, see := range []string{"see 1", "see 01", "see 1 ", "see 1  ", "see 1 2", "see 01 x", "see 1 see 2", "see 1 \r", "see 1 what what"} {
		checkLines(t, made+see+"\n", text+end)
		checkLines(t, see+"\n"+made, end)
		checkLines(t, "fall 1\nrise 1\n"+made+"fall 1\n"+see+"\n", text+"1 down leads alone 1 7\n2 up 0 0\ndone 7\n")
	}
	for _, see := range []string{"see 2", "see 02", "see 2 ", "see 2 1", "see 02 see 1"} {
		checkLines(t, made+see+"\n", end)
		checkLines(t, made+"calm\ngone D\n"+see+"\n", text+"1 up leads 1 8\n2 up 1 7\ndone 7\n")
		checkLines(t, made+"calm\nfall 2\ngone D\n"+see+"\n", text+"1 up leads 1 8\n2 down 1 7\ndone 7\n")
	}
	checkLines(t, made+"see 1\nsee 2\nsee 1\n", text+text+end)
	checkLines(t, "make A 1\nsee 1\ngone A\nsee 1\n", "A -\n1 up leads alone 1 2\n2 up 0 0\ndone 2\n")
}

// P100: each kind of operation is asked of the leader as it is then, and prints nothing.
func TestLinesOfOperations(t *testing.T) {
	made := "make A 2\nwrite A 0 ab\n"
	for op, text := range map[string]string{
		"make B 6":       "A ab -\nB - - - - - -\n",
		"write A 1 dddd": "A ab dddd\n",
		"write A 0 c":    "A c -\n",
		"free A 0":       "A - -\n",
		"free A 1":       "A ab -\n",
		"clone A D":      "A ab -\nD ab -\n",
		"gone A":         "",
	} {
		checkLines(t, made+op+"\nsee 1\nsee 2\n", text+"1 up leads alone 1 3\n2 up 0 0\ndone 3\n")
		// With Both, it is not acknowledged yet.
		checkLines(t, made+"calm\n"+op+"\nsee 1\nsee 2\n", text+"A ab -\n"+"1 up leads 1 3\n2 up 1 2\ndone 2\n")
		// The leader is not node 1 any more, whether that runs or not.
		checkLines(t, made+"calm\nturn\n"+op+"\nsee 1\nsee 2\n", "A ab -\n"+text+"1 up leads 1 2\n2 up leads alone 2 3\ndone 3\n")
		checkLines(t, made+"calm\nturn\nfall 1\n"+op+"\nsee 2\n", text+"1 down leads 1 2\n2 up leads alone 2 3\ndone 3\n")
		checkLines(t, made+"calm\nturn\ncalm\nturn\n"+op+"\nsee 1\n", text+"1 up leads alone 3 3\n2 up leads 2 2\ndone 3\n")
		checkLines(t, made+"calm\nalone\n"+op+"\nsee 1\n", text+"1 up leads alone 2 3\n2 up 1 2\ndone 3\n")
		// The leader does not run.
		checkLines(t, made+"fall 1\n"+op+"\nsee 1\n", "A ab -\n1 down leads alone 1 2\n2 up 0 0\ndone 2\n")
		checkLines(t, made+"calm\nturn\nfall 2\n"+op+"\nsee 1\nsee 2\n", "A ab -\nA ab -\n1 up leads 1 2\n2 down leads alone 2 2\ndone 2\n")
		checkLines(t, made+"fall 1\n"+op+"\nrise 1\n"+op+"\nsee 1\n", text+"1 up leads alone 1 3\n2 up 0 0\ndone 3\n")
	}
}

// P100: an operation is not possible where the leader has as many as it may have.
func TestLinesOfFullNodes(t *testing.T) {
	full := "make A 1\n" + strings.Repeat("free A 0\n", impl.LogMax-1)
	for script, want := range map[string]string{
		full:                   "1 up leads alone 1 20\n2 up 0 0\ndone 20\n",
		full + "calm\n":        "1 up leads 1 20\n2 up 1 20\ndone 20\n",
		full + "calm\nturn\n":  "1 up leads 1 20\n2 up leads alone 2 20\ndone 20\n",
		full + "calm\nalone\n": "1 up leads alone 2 20\n2 up 1 20\ndone 20\n",
	} {
		checkLines(t, script, want)
		checkLines(t, script+"write A 0 a\n", want)
		checkLines(t, script+"gone A\nmake B 1\nsee 1\n", "A -\n"+want)
	}
}

// P97: a quiet round is one; it changes something where a node is down, behind, or alone, and nothing else.
func TestLinesOfCalm(t *testing.T) {
	after := "1 up leads 1 1\n2 up 1 1\ndone 1\n"
	for _, calm := range []string{"calm\n", "calm \n", "calm 1\n", "calm 0\n", "calm 5\n", "calm 99\n", "calm x\n", "calm calm calm\n", "calm  turn\n"} {
		for _, before := range []string{"", "fall 1\n", "fall 2\n", "fall 1\nfall 2\n", "join\n", "join\nbring 1\n", "join\nbring 1\nbring 1\n", strings.Repeat("join\n", impl.NetMax), "bring 0\n"} {
			checkLines(t, "make A 1\n"+before+calm, after)
			checkLines(t, "make A 1\n"+before+calm+calm, after)
			checkLines(t, "make A 1\n"+before+calm+calm+"bring 0\nlose 0\n"+calm, after)
		}
		// What was in transit is lost.
		checkLines(t, "join\nmake A 1\n"+calm+"gone A\nlose 0\nbring 0\n", "1 up leads 1 2\n2 up 1 1\ndone 1\n")
	}
}

// P98: turn and alone change something only where both nodes have all that is acknowledged and the node that takes over runs; additional words do not matter.
func TestLinesOfTurnAndAlone(t *testing.T) {
	for _, more := range []string{"\n", " \n", " 1\n", " 2\n", " 0\n", " x\n", " 1 2 3\n", "  \n", " \xff\n"} {
		for _, word := range []string{"turn", "alone"} {
			checkLines(t, word+more, startLines)
			checkLines(t, "join\n"+word+more, startLines)
			checkLines(t, "join\nbring 0\n"+word+more, "1 up leads alone 1 0\n2 up 1 0\ndone 0\n")
			checkLines(t, "calm\nfall 1\nfall 2\n"+word+more, "1 down leads 1 0\n2 down 1 0\ndone 0\n")
		}
		checkLines(t, "calm\nturn"+more, "1 up leads 1 0\n2 up leads alone 2 0\ndone 0\n")
		checkLines(t, "calm\nturn"+more+"turn"+more+"alone"+more, "1 up leads 1 0\n2 up leads alone 2 0\ndone 0\n")
		checkLines(t, "calm\nfall 2\nturn"+more, "1 up leads 1 0\n2 down 1 0\ndone 0\n")
		checkLines(t, "calm\nfall 1\nturn"+more, "1 down leads 1 0\n2 up leads alone 2 0\ndone 0\n")
		checkLines(t, "calm\nalone"+more, "1 up leads alone 2 0\n2 up 1 0\ndone 0\n")
		checkLines(t, "calm\nalone"+more+"alone"+more+"turn"+more, "1 up leads alone 2 0\n2 up 1 0\ndone 0\n")
		checkLines(t, "calm\nfall 1\nalone"+more, "1 down leads 1 0\n2 up 1 0\ndone 0\n")
		checkLines(t, "calm\nfall 2\nalone"+more, "1 up leads alone 2 0\n2 down 1 0\ndone 0\n")
	}
}

// P97: join sends a message where the leader runs; additional words do not matter.
func TestLinesOfJoin(t *testing.T) {
	for _, more := range []string{"\n", " \n", " 1\n", " 2\n", " 0\n", " x\n", " 1 2 3\n", "  \n", " \xff\n"} {
		join := "join" + more
		checkLines(t, join, startLines)
		checkLines(t, join+"bring 0\n", "1 up leads alone 1 0\n2 up 1 0\ndone 0\n")
		checkLines(t, join+"bring 0\nbring 0\n", "1 up leads 1 0\n2 up 1 0\ndone 0\n")
		checkLines(t, "make A 1\n"+join+"bring 1\nbring 1\nsee 2\n", "A -\n1 up leads 1 1\n2 up 1 1\ndone 1\n")
		checkLines(t, "fall 1\n"+join+"rise 1\nbring 0\nbring 0\n", startLines)
		checkLines(t, "fall 2\n"+join+"rise 2\nbring 0\nbring 0\n", "1 up leads 1 0\n2 up 1 0\ndone 0\n")
		checkLines(t, "fall 2\n"+join+"bring 0\nrise 2\nbring 0\n", startLines)
		checkLines(t, "calm\nturn\n"+join+"bring 0\nbring 0\n", "1 up 2 0\n2 up leads 2 0\ndone 0\n")
	}
}

// P95: each word of the lines of the nodes is there where it must be.
func TestNodeLines(t *testing.T) {
	seen := map[string]bool{}
	for script, want := range map[string]string{
		"":                               startLines,
		"fall 1\n":                       "1 down leads alone 1 0\n2 up 0 0\ndone 0\n",
		"fall 2\n":                       "1 up leads alone 1 0\n2 down 0 0\ndone 0\n",
		"fall 1\nfall 2\n":               "1 down leads alone 1 0\n2 down 0 0\ndone 0\n",
		"calm\n":                         "1 up leads 1 0\n2 up 1 0\ndone 0\n",
		"calm\nfall 1\n":                 "1 down leads 1 0\n2 up 1 0\ndone 0\n",
		"calm\nfall 1\nturn\n":           "1 down leads 1 0\n2 up leads alone 2 0\ndone 0\n",
		"calm\nturn\nfall 2\n":           "1 up leads 1 0\n2 down leads alone 2 0\ndone 0\n",
		"calm\nturn\ncalm\n":             "1 up 2 0\n2 up leads 2 0\ndone 0\n",
		"calm\nturn\ncalm\nfall 1\n":     "1 down 2 0\n2 up leads 2 0\ndone 0\n",
		"calm\nturn\ncalm\nfall 2\n":     "1 up 2 0\n2 down leads 2 0\ndone 0\n",
		"calm\nturn\njoin\nbring 0\n":    "1 up 2 0\n2 up leads alone 2 0\ndone 0\n",
		"calm\nalone\njoin\nbring 0\n":   "1 up leads alone 2 0\n2 up 2 0\ndone 0\n",
		"calm\nturn\ncalm\nturn\n":       "1 up leads alone 3 0\n2 up leads 2 0\ndone 0\n",
		"calm\nfall 1\nfall 2\nrise 1\n": "1 up leads 1 0\n2 down 1 0\ndone 0\n",
	} {
		checkLines(t, script, want)
		for _, line := range strings.Split(want, "\n")[:2] {
			seen[strings.TrimRight(line, "0123456789 ")] = true
		}
	}
	for _, id := range []string{"1", "2"} {
		for _, line := range []string{" up", " down", " up leads", " down leads", " up leads alone", " down leads alone"} {
			if !seen[id+line] {
				t.Errorf("no %q", id+line)
			}
		}
	}
	ten := "make A 1\n" + strings.Repeat("free A 0\n", 9)
	checkLines(t, ten, "1 up leads alone 1 10\n2 up 0 0\ndone 10\n")
	checkLines(t, "calm\n"+ten, "1 up leads 1 10\n2 up 1 0\ndone 0\n")
	checkLines(t, ten+strings.Repeat("calm\nturn\n", 9)+"calm\nmake B 1\n", "1 up 10 10\n2 up leads 10 11\ndone 10\n")
}

// General rule: no state is kept between calls, one after the other or at the same time.
func TestLinesRunKeepsNoState(t *testing.T) {
	scripts := []string{
		"", "hello\n", "make A 1\nsee 1\n", "calm\nturn\nmake A 2\nsee 2\n", "see 1\nsee 2\nsee 3\n", "fall 1\nfall 2\n", strings.Repeat("\n", 601),
		"join\nbring 0\nbring 0\nmake B 1\nbring 0\nsee 2\n", strings.Repeat("calm\nturn\n", 60),
	}
	var wants []string
	for _, script := range scripts {
		wants = append(wants, checkModel(t, script))
	}
	for range 3 {
		slices.Reverse(scripts)
		slices.Reverse(wants)
		for i, script := range scripts {
			checkLines(t, script, wants[i])
		}
	}
	var running sync.WaitGroup
	for range 20 {
		for i, script := range scripts {
			running.Go(func() {
				if got := impl.LinesRun(script); got != wants[i] {
					t.Errorf("%.300q gives %.600q at the same time as others", script, got)
				}
			})
		}
	}
	running.Wait()
}
