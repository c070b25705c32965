package tests

import (
	"math"
	"strings"
	"testing"

	"loop.example/garner/impl"
)

const letters = "abcd"

// piecesOf returns all strings of letters with exactly size letters.
func piecesOf(size int) []string {
	out := []string{""}
	for range size {
		var longer []string
		for _, s := range out {
			for _, l := range letters {
				longer = append(longer, s+string(l))
			}
		}
		out = longer
	}
	return out
}

func allPieces() []string {
	var out []string
	for size := range impl.TextMax + 1 {
		out = append(out, piecesOf(size)...)
	}
	return out
}

// noPieces are strings with other letters, capitals, bytes outside ASCII, or too many letters.
func noPieces() []string {
	return []string{
		"e", "`", "z", "A", "D", "aB", "abcD", "ae", "ea", "abce", "eabc",
		" ", "a ", " a", "a b", "-", "1", "\n", "a\n", "\x00", "a\x00",
		"\xff", "a\x80", "\xe1", "\xe4bc", "\u00e9", "\u00e4", "a\u00e9", "\uff41", "\u0430",
		"aaaaa", "dddda", "abcda", "dcbad", "abcdabcd", "abcde",
		strings.Repeat("a", 256), strings.Repeat("d", 100000),
	}
}

// numbers gives a fixed sequence of numbers, each below the n that is asked for.
func numbers(state uint32) func(n int) int {
	return func(n int) int {
		state = state*1664525 + 1013904223
		return int(state>>8) % n
	}
}

func TestLimitsOfPieces(t *testing.T) {
	if impl.TextMax != 4 || impl.SlotMax != 8 {
		t.Error(impl.TextMax, impl.SlotMax)
	}
}

// P1: what is a piece, and what is not.
func TestTextOkOfGivenTexts(t *testing.T) {
	for _, s := range []string{"", "a", "b", "c", "d", "aa", "ad", "da", "abc", "ddd", "abcd", "dcba", "aaaa", "dddd"} {
		if !impl.TextOk(s) {
			t.Errorf("%q is a piece", s)
		}
	}
	for _, s := range noPieces() {
		if impl.TextOk(s) {
			t.Errorf("%.20q is no piece", s)
		}
	}
}

// P1: every text of at most two bytes, whatever these are.
func TestTextOkOfAllShortTexts(t *testing.T) {
	for i := range 256 {
		first := strings.IndexByte(letters, byte(i)) >= 0
		if s := string([]byte{byte(i)}); impl.TextOk(s) != first {
			t.Errorf("%q: %v", s, !first)
		}
		for j := range 256 {
			both := first && strings.IndexByte(letters, byte(j)) >= 0
			if s := string([]byte{byte(i), byte(j)}); impl.TextOk(s) != both {
				t.Errorf("%q: %v", s, !both)
			}
		}
	}
}

// P1: a piece has at most TextMax letters.
func TestTextOkByLength(t *testing.T) {
	for _, s := range piecesOf(impl.TextMax) {
		if !impl.TextOk(s) {
			t.Errorf("%q has the greatest length", s)
		}
	}
	for _, s := range piecesOf(impl.TextMax + 1) {
		if impl.TextOk(s) {
			t.Errorf("%q is too long by a letter", s)
		}
	}
}

// P1: every prefix and suffix of a piece is a piece.
func TestTextOkOfPrefixesAndSuffixes(t *testing.T) {
	for _, s := range allPieces() {
		for i := range len(s) + 1 {
			if !impl.TextOk(s[:i]) || !impl.TextOk(s[i:]) {
				t.Errorf("%q cut at %d", s, i)
			}
		}
	}
}

// P1: with another letter, at whichever position, it is not a piece.
func TestTextOkWithAnotherLetter(t *testing.T) {
	for _, s := range allPieces() {
		for i := range len(s) {
			for b := range 256 {
				if strings.IndexByte(letters, byte(b)) >= 0 {
					continue
				}
				other := s[:i] + string([]byte{byte(b)}) + s[i+1:]
				if impl.TextOk(other) || impl.TextPlace(other) != 0 {
					t.Fatalf("%q is no piece", other)
				}
			}
		}
	}
}

// P2: slots worked out by hand.
func TestTextPlaceOfGivenPieces(t *testing.T) {
	want := map[string]int{
		"": 1, "a": 2, "b": 3, "c": 4, "d": 5,
		"aa": 4, "ab": 6, "ac": 8, "ad": 2, "ba": 5, "da": 7, "dd": 5,
		"aaa": 7, "abc": 7, "cba": 3, "ddd": 1,
		"aaaa": 3, "aaab": 7, "baaa": 4, "abcd": 7, "dcba": 5, "dddd": 1,
	}
	for s, place := range want {
		if got := impl.TextPlace(s); got != place {
			t.Errorf("%q: %d, not %d", s, got, place)
		}
	}
}

// P2: 0 for what is not a piece.
func TestTextPlaceOfNoPiece(t *testing.T) {
	for _, s := range append(noPieces(), piecesOf(impl.TextMax+1)...) {
		if got := impl.TextPlace(s); got != 0 {
			t.Errorf("%.20q: %d", s, got)
		}
	}
}

// P2: the place of a piece is a slot, the empty piece's is the first, and every slot is the place of a piece.
func TestTextPlaceIsASlot(t *testing.T) {
	if got := impl.TextPlace(""); got != 1 {
		t.Errorf("the empty piece: %d", got)
	}
	seen := map[int]bool{}
	for _, s := range allPieces() {
		place := impl.TextPlace(s)
		if place < 1 || place > impl.SlotMax {
			t.Errorf("%q: %d", s, place)
		}
		seen[place] = true
	}
	if len(seen) != impl.SlotMax {
		t.Error(seen)
	}
}

// P2: appending a letter advances the place by its value multiplied by its position.
func TestTextPlaceAdvancesByLetter(t *testing.T) {
	for _, s := range allPieces() {
		if len(s) == impl.TextMax {
			continue
		}
		for i, l := range letters {
			want := impl.TextPlace(s)
			for range (i + 1) * (len(s) + 1) {
				want = impl.TextNext(want)
			}
			if got := impl.TextPlace(s + string(l)); got != want {
				t.Errorf("%q and %q: %d, not %d", s, l, got, want)
			}
		}
	}
}

// P3: the next slot of each one; the first follows the last.
func TestTextNextOfEachSlot(t *testing.T) {
	for i, want := range []int{2, 3, 4, 5, 6, 7, 8, 1} {
		if got := impl.TextNext(i + 1); got != want {
			t.Errorf("%d: %d, not %d", i+1, got, want)
		}
	}
}

// P3: as many steps as there are slots visit all of them and end where they began.
func TestTextNextGoesRound(t *testing.T) {
	for start := 1; start <= impl.SlotMax; start++ {
		seen := map[int]bool{}
		place := start
		for range impl.SlotMax {
			place = impl.TextNext(place)
			seen[place] = true
		}
		if place != start || len(seen) != impl.SlotMax {
			t.Errorf("from %d: ends at %d, visits %v", start, place, seen)
		}
	}
}

// P3: slots that there are not, negative ones and those that wrap around to a slot among them.
func TestTextNextOfNoSlot(t *testing.T) {
	for _, place := range []int{
		0, impl.SlotMax + 1, impl.SlotMax + 2, 2 * impl.SlotMax, 2*impl.SlotMax + 1, 257, math.MaxInt - 6,
		-1, -2, -impl.SlotMax, -impl.SlotMax + 1, -impl.SlotMax - 1, math.MinInt, math.MinInt + 1, math.MaxInt,
	} {
		if got := impl.TextNext(place); got != 0 {
			t.Errorf("%d: %d", place, got)
		}
	}
}
