package plane_test

import (
	"math"
	"slices"
	"testing"

	"tally/api"
	"tally/plane"
)

// P3.4: the chapter's examples.
func TestCopiesExamples(t *testing.T) {
	for _, c := range []struct {
		shard, nodes, copies int
		want                 []int
	}{{0, 5, 3, []int{3, 0, 2}}, {0, 3, 3, []int{0, 2, 1}}, {1, 3, 1, []int{0}}, {0, 1, 1, []int{0}}, {7, 1, 1, []int{0}}} {
		if l, e := plane.Copies(c.shard, c.nodes, c.copies); e != api.OK || !slices.Equal(l, c.want) {
			t.Errorf("Copies(%d, %d, %d) = %v, %d, want %v", c.shard, c.nodes, c.copies, l, e, c.want)
		}
	}
}

// P3.4, R4: every number about the bounds, and those at the ends of their type: refused just where the chapter says so, and then nothing is told.
func TestCopiesBounds(t *testing.T) {
	numbers := []int{math.MinInt, math.MinInt + 1, -api.MaxNumber, -7, -2, -1, 0, 1, 2, 3, 4, 5, 6, 7, 8, 9, 10, 11, 1 << 32, 1<<32 + 1, 1<<32 + 3, math.MaxInt - 1, math.MaxInt}
	for _, shard := range numbers {
		for _, nodes := range numbers {
			for _, copies := range numbers {
				good := shard >= 0 && shard <= 7 && nodes >= 1 && nodes <= 9 && copies <= nodes &&
					(copies == 1 || copies == 3 || copies == 5 || copies == 7)
				l, e := plane.Copies(shard, nodes, copies)
				if good && (e != api.OK || len(l) != copies) || !good && (e != api.ErrPlane || len(l) != 0) {
					t.Fatalf("Copies(%d, %d, %d) = %v, %d", shard, nodes, copies, l, e)
				}
			}
		}
	}
}

// P3.4, P3.7: of every cluster: so many different nodes of those that there are, each ahead of all that are less near, and of all that are equally near and have a greater number.
func TestCopiesNearest(t *testing.T) {
	nodesAt := [][2]int{{0, 0}, {1, 0}, {1, 1}, {0, 1}, {-1, 1}, {-1, 0}, {-1, -1}, {0, -1}, {1, -1}}
	shardsAt := [][2]int{{0, 1}, {-1, 1}, {-1, 0}, {-1, -1}, {0, -1}, {1, -1}, {1, 0}, {1, 1}}
	for shard, s := range shardsAt {
		apart := func(node int) int {
			x, y := nodesAt[node][0]-s[0], nodesAt[node][1]-s[1]
			return x*x + y*y
		}
		for nodes := 1; nodes <= api.MaxNodes; nodes++ {
			for copies := 1; copies <= min(nodes, api.MaxCopies); copies += 2 {
				l, e := plane.Copies(shard, nodes, copies)
				if e != api.OK || len(l) != copies {
					t.Fatalf("Copies(%d, %d, %d) = %v, %d", shard, nodes, copies, l, e)
				}
				for place, node := range l {
					if node < 0 || node >= nodes {
						t.Fatalf("Copies(%d, %d, %d) = %v: no such node", shard, nodes, copies, l)
					}
					for other := range nodes {
						before := slices.Contains(l[:place], other)
						nearer := apart(other) < apart(node) || apart(other) == apart(node) && other < node
						if before != nearer {
							t.Fatalf("Copies(%d, %d, %d) = %v: node %d at place %d, and node %d", shard, nodes, copies, l, node, place, other)
						}
					}
				}
			}
		}
	}
}

// P3.7, R2: the list is new memory, its spare room too.
func TestCopiesNewMemory(t *testing.T) {
	first, _ := plane.Copies(2, 9, 3)
	kept := slices.Clone(first)
	second, _ := plane.Copies(2, 9, 3)
	for k := range first[:cap(first)] {
		first[:cap(first)][k] = -1
	}
	third, _ := plane.Copies(2, 9, 3)
	if !slices.Equal(second, kept) || !slices.Equal(third, kept) {
		t.Errorf("Copies told %v, then %v and %v behind a change of the first list", kept, second, third)
	}
}
