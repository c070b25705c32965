package impl

import (
	"slices"
	"testing"
)

// Where probe starts shows in no result of chapter 1, so it is tested here.
func TestProbe(t *testing.T) {
	for place, want := range map[int][]int{
		1:  {1, 2, 3, 4, 5, 6, 7, 8},
		5:  {5, 6, 7, 8, 1, 2, 3, 4},
		8:  {8, 1, 2, 3, 4, 5, 6, 7},
		0:  nil,
		9:  nil,
		-1: nil,
	} {
		if got := slices.Collect(probe(place)); !slices.Equal(got, want) {
			t.Errorf("from %d: %v", place, got)
		}
	}
}
