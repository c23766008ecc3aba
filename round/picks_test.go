package round

import (
	"math"
	"slices"
	"testing"

	"caracole/api"
)

// These tests stand inside the package: what Run answers is the same whatever is picked, so how it
// picks is not to be seen from outside.

func TestAPickIsCountedRoundWithoutSign(t *testing.T) {
	for _, c := range []struct{ pick, deeds, want int }{
		{0, 1, 0}, {1, 1, 0}, {-1, 1, 0}, {math.MinInt, 1, 0}, {math.MaxInt, 1, 0},
		{0, 3, 0}, {1, 3, 1}, {2, 3, 2}, {3, 3, 0}, {4, 3, 1}, {299, 3, 2},
		{-1, 2, 1}, {-2, 2, 0},
		{-1, 3, 0}, {-2, 3, 2}, {-3, 3, 1}, {-4, 3, 0},
		{-1, 5, 0}, {-2, 5, 4},
		{-1, 7, 1}, {-2, 7, 0}, {-3, 7, 6},
		{-1, 8, 7}, {-8, 8, 0},
		{math.MaxInt, 3, 1}, {math.MinInt, 3, 2},
		{math.MaxInt, 7, 0}, {math.MinInt, 7, 1},
		{math.MaxInt, 8, 7}, {math.MinInt, 8, 0},
		{1 << 32, 3, 1}, {1<<32 + 1, 7, 5},
		{0, 0, -1}, {5, 0, -1}, {-1, 0, -1},
	} {
		if got := around(c.pick, c.deeds); got != c.want {
			t.Errorf("%d by %d deeds: %d, want %d", c.pick, c.deeds, got, c.want)
		}
	}
}

func TestFollowDoesAStepForEachPick(t *testing.T) {
	num := api.Op{Kind: api.ONum, A: 0, N: 5}
	for _, c := range []struct {
		name  string
		picks []int
		left  []int
	}{
		{"no picks", nil, []int{0, 1, 2}},
		{"the last one", []int{2, 2}, []int{0, 1}},
		{"one step is not enough", []int{0, 1, 2}, []int{0, 1, 2}},
		{"each in turn", []int{0, 1, 2, 2, 1, 0}, nil},
		{"counted round", []int{3, 7, 0, 1}, []int{2}},
		{"without sign", []int{-1, -2, -4, -5}, []int{1}},
		{"of one that is over", []int{1, 1, 1, 1, 0}, []int{0, 2}},
	} {
		r, _ := New(api.State{}, api.Round{{num}, {num}, {num}})
		r.follow(c.picks)
		if got := r.Left(); !slices.Equal(got, c.left) {
			t.Errorf("%s: %v are left, want %v", c.name, got, c.left)
		}
	}
	r, _ := New(api.State{}, nil)
	r.follow([]int{0, 1, -1, math.MinInt, math.MaxInt})
}
