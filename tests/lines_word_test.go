package tests

import (
	"fmt"
	"strings"
	"testing"
)

// numbered is a command with a number: what comes before it, the numbers for which it does something then,
// and lines after it, which show what it has done.
type numbered struct {
	before, word string
	numbers      []int
	after        []string
}

func numberedCommands() []numbered {
	// Two messages, of which only the first one is heard as long as node 2 knows no term; and eleven, of which only the last one is.
	two, eleven := "join\nmake A 1\n", strings.Repeat("make A 1\ngone A\n", 5)+"join\n"
	brings := []string{"", "bring 0\n", "bring 0\nbring 0\n"}
	return []numbered{
		{two, "bring", []int{0, 1}, brings},
		{two, "lose", []int{0, 1}, brings},
		{two, "twice", []int{0, 1}, []string{"bring 2\n", "lose 1\nbring 0\nbring 0\n"}},
		{eleven, "bring", []int{10}, []string{""}},
		{eleven, "lose", []int{10}, []string{"bring 10\n"}},
		{eleven, "twice", []int{10}, []string{"lose 10\nbring 10\n"}},
		{"", "fall", []int{1, 2}, []string{""}},
		{"fall 1\nfall 2\n", "rise", []int{1, 2}, []string{""}},
		{"make A 1\ncalm\nwrite A 0 b\n", "see", []int{1, 2}, []string{""}},
	}
}

// shown is all that a line of a command makes of what is shown after it.
func (c numbered) shown(t *testing.T, line string) string {
	t.Helper()
	out := ""
	for _, after := range c.after {
		out += checkModel(t, c.before+line+after)
	}
	return out
}

// none is what is shown where a command has a number that there is not.
func (c numbered) none(t *testing.T) string {
	if c.word == "see" {
		return c.shown(t, "hello\n")
	}
	return c.shown(t, "")
}

// numberWords are words that are the number n, with and without additional words.
func numberWords(n int) []string {
	var out []string
	for _, word := range []string{fmt.Sprintf("%d", n), fmt.Sprintf("%02d", n)} {
		for _, more := range []string{"", " ", "  ", " 0", " 1", " 2", " 99", " x", " \xff", " 1 2 3", " " + word} {
			out = append(out, word+more)
		}
	}
	return out
}

// noNumberWords are no numbers, though n is in them, or nothing.
func noNumberWords(n int) []string {
	out := []string{"", " ", "  ", "-", "+", "--", "-1", "x", "A", "a b", ".", "..", "\t", "\x00", "\xff", "\r", "\u0660", "\u0661", "\u0662", "\u00b9", "\u00b2", "\u2460", "\uff11", "\uff12"}
	for _, form := range []string{
		" %d", "  %d", " %02d", "x %d", "- %d", "+%d", "-%d", "%03d", "%05d", "0%02d", "%d00", "1%02d", "%d.", ".%d", "%d.0", "%d,", "%d_", "_%d", "0_%d", "%da", "a%d", "0x%d", "x%d", "0b%d", "0o%d",
		"%de0", "%d\t", "\t%d", "%d\r", "%d\x00", "\x00%d", "%d\xff", "\xff%d", "\u00a0%d", "%d\u00a0", "\"%d\"", "(%d)", "#%d", "0%d\t", "%d/", ":%d", "4294967296%d", "%d99999999999999999999",
	} {
		out = append(out, fmt.Sprintf(form, n))
	}
	return out
}

// P100: a number is one or two digits; a command with another word, with none, or of what there is not, changes nothing, but prints nothing.
func TestLinesOfNumbers(t *testing.T) {
	for _, c := range numberedCommands() {
		none := c.none(t)
		seen := map[string]bool{none: true}
		for _, n := range c.numbers {
			want := c.shown(t, fmt.Sprintf("%s %d\n", c.word, n))
			if seen[want] {
				t.Fatalf("%s %d does not show", c.word, n)
			}
			seen[want] = true
			for _, word := range numberWords(n) {
				if got := c.shown(t, c.word+" "+word+"\n"); got != want {
					t.Errorf("%s %s: %q, not %q", c.word, word, got, want)
				}
			}
			for _, word := range noNumberWords(n) {
				if got := c.shown(t, c.word+" "+word+"\n"); got != none {
					t.Errorf("%s %s: %q, not %q", c.word, word, got, none)
				}
			}
		}
		if got := c.shown(t, c.word+"\n"); got != none {
			t.Errorf("%s without a number: %q, not %q", c.word, got, none)
		}
	}
}

// P100: a message or a node that there is not.
func TestLinesOfOtherNumbers(t *testing.T) {
	for _, c := range numberedCommands() {
		none, there := c.none(t), map[int]bool{}
		for n := range strings.Count(c.before, "make") + strings.Count(c.before, "gone") + strings.Count(c.before, "join") {
			there[n] = true
		}
		if c.word == "fall" || c.word == "rise" || c.word == "see" {
			there = map[int]bool{1: true, 2: true}
		}
		for word, n := range lineNumbers() {
			if got := c.shown(t, c.word+" "+word+"\n"); !there[n] && got != none {
				t.Errorf("%s %s: %q, not %q", c.word, word, got, none)
			}
		}
	}
}

// P84, P94: what the commands with a number do, told in full.
func TestLinesOfCommandsWithNumbers(t *testing.T) {
	joined := "1 up leads 1 0\n2 up 1 0\ndone 0\n"
	halfway := "1 up leads alone 1 0\n2 up 1 0\ndone 0\n"
	ten := strings.Repeat("make A 1\ngone A\n", 5)
	for script, want := range map[string]string{
		"join\nbring 0\n":                                         halfway,
		"join\nbring 00\nbring 0 0\n":                             joined,
		"join\nbring 1\nbring\nbring 000\nbring -0\n":             startLines,
		"join\nlose 0\nbring 0\nbring 0\n":                        startLines,
		"join\nlose 1\nbring 0\nbring 0\n":                        joined,
		"join\nbring 0\nlose 0\nbring 0\n":                        halfway,
		"join\ntwice 0\nlose 0\nbring 0\nbring 0\n":               joined,
		"join\ntwice 1\nlose 0\nbring 0\nbring 0\n":               startLines,
		"join\nfall 2\nbring 0\nrise 2\nbring 0\n":                startLines,
		"join\nbring 0\nfall 1\nbring 0\nrise 1\n":                halfway,
		"join\nbring 0\nfall 2\nbring 0\n":                        "1 up leads 1 0\n2 down 1 0\ndone 0\n",
		"join\nfall 3\nfall 0\nfall\nfall 12\nfall A\n":           startLines,
		"fall 1\nfall 2\nrise 3\nrise 0\nrise\nrise 12\nrise A\n": "1 down leads alone 1 0\n2 down 0 0\ndone 0\n",
		"fall 1\nfall 1\nrise 2\n":                                "1 down leads alone 1 0\n2 up 0 0\ndone 0\n",
		"fall 01\nfall 02\nrise 02 1\n":                           "1 down leads alone 1 0\n2 up 0 0\ndone 0\n",
		ten + "join\nbring 10\n":                                  "1 up leads alone 1 10\n2 up 1 10\ndone 10\n",
		ten + "join\nbring 10\nbring 10\n":                        "1 up leads 1 10\n2 up 1 10\ndone 10\n",
		ten + "join\nbring 11\nbring 010\nbring 1\n":              "1 up leads alone 1 10\n2 up 0 0\ndone 10\n",
		ten + "make A 1\njoin\nbring 11\nbring 11\n":              "1 up leads 1 11\n2 up 1 11\ndone 11\n",
		ten + "make A 1\ngone A\njoin\nbring 12\nbring 11\n":      "1 up leads alone 1 12\n2 up 0 0\ndone 12\n",
	} {
		checkLines(t, script, want)
	}
}

// P100: with any byte changed, added or left out a line does what it is then.
func TestLinesOfChangedBytes(t *testing.T) {
	before, after := "calm\nmake A 2\n", "\nbring 0\nsee 2\n"
	for _, line := range []string{"see 1", "calm", "turn", "alone", "join", "bring 0", "lose 0", "twice 0", "fall 2", "rise 1", "make B 1", "write A 1 a"} {
		for i := range len(line) + 1 {
			for b := 0; b < 256; b += 1 + b/128*7 {
				letter := string([]byte{byte(b)})
				checkModel(t, before+line[:i]+letter+line[i:]+after)
				if i < len(line) {
					checkModel(t, before+line[:i]+letter+line[i+1:]+after)
				}
			}
			checkModel(t, before+line[:i]+after)
			checkModel(t, before+line[i:]+after)
			checkModel(t, before+line[:i]+line[min(i+1, len(line)):]+after)
		}
	}
}

// P100: any words, at most three, do what they tell, and print "what" exactly where they are no command.
func TestLinesOfAnyWords(t *testing.T) {
	words := []string{"", "see", "bring", "fall", "turn", "calm", "join", "make", "gone", "what", "A", "0", "1", "02", "001", "-1"}
	known := map[string]bool{"bring": true, "fall": true, "turn": true, "calm": true, "join": true}
	whats := 0
	for _, first := range words {
		for _, second := range words {
			for _, third := range words {
				line := first + " " + second + " " + third
				out := checkModel(t, "make A 1\njoin\nbring 1\n"+line+"\nsee 2\n")
				fine := known[first] || first == "see" && (second == "1" || second == "02") || line == "make A 1"
				if got := strings.Count(out, "what\n"); got > 1 || (got == 0) != fine {
					t.Fatalf("%q prints what %d times", line, got)
				}
				if !fine {
					whats++
				}
			}
		}
	}
	if whats < 1000 {
		t.Error(whats, "lines are no command")
	}
}
