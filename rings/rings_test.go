package rings_test

import (
	"math"
	"math/big"
	"slices"
	"testing"

	"sennit/api"
	"sennit/rings"
)

const (
	cw  = api.DrCw
	ccw = api.DrCcw
)

var (
	bothWays = []api.Dir{cw, ccw}
	bothHops = []int{1, 2}
	noRings  = []int{math.MinInt, -4, -1, 0, 1, 3, 17, 32, math.MaxInt}
	noHops   = []int{math.MinInt, -2, -1, 0, 3, 4, math.MaxInt}
)

// sizes: each number of nodes that a ring may have.
func sizes() []int {
	out := []int{}
	for n := 4; n <= 16; n++ {
		out = append(out, n)
	}
	return out
}

// noNodes of a ring of n.
func noNodes(n int) []int {
	return []int{math.MinInt, -n, -1, n, n + 1, 2 * n, math.MaxInt}
}

// noDirs: all directions that there are not.
func noDirs() []api.Dir {
	out := []api.Dir{}
	for d := 2; d < 256; d++ {
		out = append(out, api.Dir(d))
	}
	return out
}

// beside: the next node in a direction, as the document's Words say it.
func beside(n int, d api.Dir, node int) int {
	switch {
	case d == cw && node == n-1:
		return 0
	case d == cw:
		return node + 1
	case node == 0:
		return n - 1
	}
	return node - 1
}

// walked: the node so many steps (0 or more) on, one by one.
func walked(n int, d api.Dir, node, steps int) int {
	for range steps {
		node = beside(n, d, node)
	}
	return node
}

// counted: the least steps that lead from a node to another one, one by one.
func counted(n int, d api.Dir, from, to int) int {
	steps := 0
	for from != to {
		from = beside(n, d, from)
		steps++
	}
	return steps
}

// worded: a track path as the document words it, by the path that is at the node ahead of the end.
func worded(n int, d api.Dir, from, to, hop int) ([]int, bool) {
	far := counted(n, d, from, to)
	if far == 0 || far == 1 && hop == 2 {
		return nil, false
	}
	if far == hop {
		return []int{}, true
	}
	ahead := walked(n, 1-d, to, hop)
	last := 2
	if counted(n, d, from, ahead) == 1 {
		last = 1
	}
	path, ok := worded(n, d, from, ahead, last)
	return append(path, ahead), ok
}

// wrong calls check with each argument that may not be, one at a time, beside ones that may.
func wrong(check func(n int, d api.Dir, a, b int)) {
	for _, n := range noRings {
		for _, d := range bothWays {
			check(n, d, 0, 0)
			check(n, d, 0, 1)
			check(n, d, n, n)
			check(n, d, n-1, 0)
		}
	}
	for _, n := range sizes() {
		for _, d := range noDirs() {
			check(n, d, 0, 0)
			check(n, d, 1, n-1)
		}
		for _, d := range bothWays {
			for _, x := range noNodes(n) {
				check(n, d, x, 0)
				check(n, d, 0, x)
				check(n, d, x, x)
			}
		}
	}
}

func TestStepAsTheDocumentHasIt(t *testing.T) { // P3.1
	for _, c := range []struct {
		n           int
		d           api.Dir
		node, steps int
		want        int
	}{
		{6, ccw, 1, 2, 5},
		{6, cw, 1, 2, 3},
		{6, cw, 5, 1, 0},
		{6, ccw, 0, 1, 5},
		{6, cw, 1, -2, 5},
		{6, ccw, 1, -2, 3},
		{6, cw, 0, -1, 5},
		{6, ccw, 5, -1, 0},
		{6, cw, 3, 0, 3},
		{6, ccw, 3, 0, 3},
		{6, cw, 3, 6, 3},
		{6, ccw, 3, -6, 3},
		{4, cw, 3, 4*1000000 + 1, 0},
		{4, ccw, 0, 4*1000000 + 1, 3},
		{16, cw, 15, -4*1000000 - 1, 14},
	} {
		if got := rings.Step(c.n, c.d, c.node, c.steps); got != c.want {
			t.Errorf("Step(%d, %d, %d, %d) = %d, want %d", c.n, c.d, c.node, c.steps, got, c.want)
		}
	}
}

func TestStepIsAWalk(t *testing.T) { // P3.1: below 0 it is one against the direction
	for _, n := range sizes() {
		for _, d := range bothWays {
			for node := range n {
				for steps := range 5*n + 1 {
					if got, want := rings.Step(n, d, node, steps), walked(n, d, node, steps); got != want {
						t.Errorf("Step(%d, %d, %d, %d) = %d, want %d", n, d, node, steps, got, want)
					}
					if got, want := rings.Step(n, d, node, -steps), walked(n, 1-d, node, steps); got != want {
						t.Errorf("Step(%d, %d, %d, %d) = %d, want %d", n, d, node, -steps, got, want)
					}
				}
			}
		}
	}
}

func TestStepTakesAnyNumberOfSteps(t *testing.T) { // P3.1: more than there are nodes, up to all that a number holds
	many := []int{}
	for k := range 40 {
		many = append(many, math.MaxInt-k, math.MinInt+k, math.MaxInt32+k, math.MinInt32-k)
	}
	for _, n := range sizes() {
		for node := range n {
			for _, steps := range many {
				s := big.NewInt(int64(steps))
				at := big.NewInt(int64(node))
				size := big.NewInt(int64(n))
				on := new(big.Int).Add(at, s)
				if got, want := rings.Step(n, cw, node, steps), int(on.Mod(on, size).Int64()); got != want {
					t.Errorf("Step(%d, CW, %d, %d) = %d, want %d", n, node, steps, got, want)
				}
				back := new(big.Int).Sub(at, s)
				if got, want := rings.Step(n, ccw, node, steps), int(back.Mod(back, size).Int64()); got != want {
					t.Errorf("Step(%d, CCW, %d, %d) = %d, want %d", n, node, steps, got, want)
				}
			}
		}
	}
}

func TestStepOfWhatIsNot(t *testing.T) { // P3.1
	check := func(n int, d api.Dir, node, steps int) {
		if got := rings.Step(n, d, node, steps); got != -1 {
			t.Errorf("Step(%d, %d, %d, %d) = %d, want -1", n, d, node, steps, got)
		}
	}
	for _, steps := range []int{math.MinInt, -17, -1, 0, 1, 2, 100, math.MaxInt} {
		for _, n := range noRings {
			check(n, cw, 0, steps)
			check(n, ccw, 0, steps)
		}
		for _, n := range sizes() {
			for _, d := range noDirs() {
				check(n, d, 0, steps)
			}
			for _, node := range noNodes(n) {
				check(n, cw, node, steps)
				check(n, ccw, node, steps)
			}
		}
	}
}

func TestDistance(t *testing.T) { // P3.1
	if got := rings.Distance(6, cw, 4, 1); got != 3 {
		t.Errorf("Distance(6, CW, 4, 1) = %d, want 3", got)
	}
	for _, n := range sizes() {
		for _, d := range bothWays {
			for from := range n {
				for to := range n {
					if got, want := rings.Distance(n, d, from, to), counted(n, d, from, to); got != want {
						t.Errorf("Distance(%d, %d, %d, %d) = %d, want %d", n, d, from, to, got, want)
					}
				}
				if got := rings.Distance(n, d, from, from); got != 0 {
					t.Errorf("Distance(%d, %d, %d, to itself) = %d", n, d, from, got)
				}
				for hop := range 3 {
					to := walked(n, d, from, hop)
					if got := rings.Distance(n, d, from, to); got != hop {
						t.Errorf("Distance(%d, %d, %d, %d) = %d, want %d", n, d, from, to, got, hop)
					}
				}
			}
		}
	}
}

func TestDistanceOfWhatIsNot(t *testing.T) { // P3.1
	wrong(func(n int, d api.Dir, from, to int) {
		if got := rings.Distance(n, d, from, to); got != -1 {
			t.Errorf("Distance(%d, %d, %d, %d) = %d, want -1", n, d, from, to, got)
		}
	})
}

func TestSource(t *testing.T) { // P3.2
	if got := rings.Source(6, cw, 0, 2); got != 4 {
		t.Errorf("Source(6, CW, 0, 2) = %d, want 4", got)
	}
	for _, n := range sizes() {
		for _, d := range bothWays {
			for _, hop := range bothHops {
				for sender := range n {
					node := walked(n, d, sender, hop)
					if got := rings.Source(n, d, node, hop); got != sender {
						t.Errorf("Source(%d, %d, %d, %d) = %d, want %d", n, d, node, hop, got, sender)
					}
				}
			}
		}
	}
}

func TestLink(t *testing.T) { // P3.2
	if got := rings.Link(6, ccw, 3, 2); got != 15 {
		t.Errorf("Link(6, CCW, 3, 2) = %d, want 15", got)
	}
	for _, n := range sizes() {
		for node := range n {
			for _, c := range []struct {
				d         api.Dir
				hop, more int
			}{{cw, 1, 0}, {cw, 2, 1}, {ccw, 1, 2}, {ccw, 2, 3}} {
				if got := rings.Link(n, c.d, node, c.hop); got != 4*node+c.more {
					t.Errorf("Link(%d, %d, %d, %d) = %d, want %d", n, c.d, node, c.hop, got, 4*node+c.more)
				}
			}
		}
	}
}

func TestSourceAndLinkOfWhatIsNot(t *testing.T) { // P3.2
	check := func(n int, d api.Dir, node, hop int) {
		if got := rings.Source(n, d, node, hop); got != -1 {
			t.Errorf("Source(%d, %d, %d, %d) = %d, want -1", n, d, node, hop, got)
		}
		if got := rings.Link(n, d, node, hop); got != -1 {
			t.Errorf("Link(%d, %d, %d, %d) = %d, want -1", n, d, node, hop, got)
		}
	}
	for _, hop := range bothHops {
		for _, n := range noRings {
			check(n, cw, 0, hop)
			check(n, ccw, 0, hop)
		}
		for _, n := range sizes() {
			for _, d := range noDirs() {
				check(n, d, 0, hop)
			}
			for _, node := range noNodes(n) {
				check(n, cw, node, hop)
				check(n, ccw, node, hop)
			}
		}
	}
	for _, hop := range noHops {
		for _, n := range sizes() {
			for node := range n {
				check(n, cw, node, hop)
				check(n, ccw, node, hop)
			}
		}
		check(0, 2, -1, hop)
	}
}

func TestEnds(t *testing.T) { // P3.2
	if from, to, d, hop := rings.Ends(6, 15); from != 3 || to != 1 || d != ccw || hop != 2 {
		t.Errorf("Ends(6, 15) = %d, %d, %d, %d, want 3, 1, 1, 2", from, to, d, hop)
	}
	for _, n := range sizes() {
		link := 0
		for sender := range n {
			for _, way := range bothWays {
				for _, long := range bothHops {
					from, to, d, hop := rings.Ends(n, link)
					if from != sender || to != walked(n, way, sender, long) || d != way || hop != long {
						t.Errorf("Ends(%d, %d) = %d, %d, %d, %d", n, link, from, to, d, hop)
					}
					link++
				}
			}
		}
	}
}

func TestEndsOfWhatIsNot(t *testing.T) { // P3.2
	check := func(n, link int) {
		if from, to, d, hop := rings.Ends(n, link); from != -1 || to != -1 || d != 0 || hop != 0 {
			t.Errorf("Ends(%d, %d) = %d, %d, %d, %d, want -1, -1, 0, 0", n, link, from, to, d, hop)
		}
	}
	for _, n := range noRings {
		for _, link := range []int{math.MinInt, -1, 0, 1, 2, 3, 15, 63, 64, math.MaxInt} {
			check(n, link)
		}
	}
	for _, n := range sizes() {
		for link := 1; link < 10; link++ {
			check(n, -link)
			check(n, 4*n-1+link)
		}
		for link := 4 * n; link < 1000; link++ {
			check(n, link)
		}
		for k := range 5 {
			check(n, math.MinInt+k)
			check(n, math.MaxInt-k)
		}
	}
}

func TestLinkAndEndsAreOneAnothersBack(t *testing.T) { // P3.2
	for _, n := range sizes() {
		for link := range 4 * n {
			from, to, d, hop := rings.Ends(n, link)
			if got := rings.Link(n, d, from, hop); got != link {
				t.Errorf("of %d nodes: link %d came back as %d", n, link, got)
			}
			if got := rings.Source(n, d, to, hop); got != from {
				t.Errorf("of %d nodes: link %d leads to %d, whose source is %d, not %d", n, link, to, got, from)
			}
		}
	}
}

func TestPathAsTheDocumentHasIt(t *testing.T) { // P3.3
	for _, c := range []struct {
		n             int
		d             api.Dir
		from, to, hop int
		want          []int
	}{
		{6, cw, 0, 5, 1, []int{2, 4}},
		{6, cw, 0, 5, 2, []int{1, 3}},
		{6, cw, 0, 1, 1, nil},
		{6, ccw, 0, 5, 1, nil},
		{6, cw, 5, 0, 1, nil},
		{6, cw, 0, 2, 1, []int{1}},
		{6, cw, 0, 2, 2, nil},
		{6, ccw, 0, 4, 1, []int{5}},
		{6, ccw, 0, 4, 2, nil},
		{6, cw, 4, 1, 1, []int{0}},
		{6, cw, 4, 1, 2, []int{5}},
		{6, ccw, 1, 4, 1, []int{5}},
		{6, ccw, 1, 4, 2, []int{0}},
		{6, cw, 4, 2, 1, []int{5, 1}},
		{6, cw, 4, 2, 2, []int{0}},
		{16, cw, 3, 2, 1, []int{5, 7, 9, 11, 13, 15, 1}},
		{16, cw, 3, 2, 2, []int{4, 6, 8, 10, 12, 14, 0}},
	} {
		if got, ok := rings.Path(c.n, c.d, c.from, c.to, c.hop); !ok || !slices.Equal(got, c.want) {
			t.Errorf("Path(%d, %d, %d, %d, %d) = %v, %v, want %v", c.n, c.d, c.from, c.to, c.hop, got, ok, c.want)
		}
	}
}

func TestPathIsAsItIsWorded(t *testing.T) { // P3.3
	for _, n := range sizes() {
		for _, d := range bothWays {
			for _, hop := range bothHops {
				for from := range n {
					for to := range n {
						want, is := worded(n, d, from, to, hop)
						if got, ok := rings.Path(n, d, from, to, hop); ok != is || !slices.Equal(got, want) {
							t.Errorf("Path(%d, %d, %d, %d, %d) = %v, %v, want %v, %v", n, d, from, to, hop, got, ok, want, is)
						}
					}
				}
			}
		}
	}
}

func TestPathGoesOverLinks(t *testing.T) { // P3.3: each node of it is the source of the next one, and the last hop is the one told
	for _, n := range sizes() {
		for _, d := range bothWays {
			for _, hop := range bothHops {
				for from := range n {
					for far := hop; far < n; far++ {
						to := walked(n, d, from, far)
						path, _ := rings.Path(n, d, from, to, hop)
						stops := append(append([]int{from}, path...), to)
						all := 0
						for i, x := range stops[1:] {
							long := counted(n, d, stops[i], x)
							all += long
							if long != 1 && long != 2 || i == len(path) && long != hop {
								t.Errorf("Path(%d, %d, %d, %d, %d) = %v has a hop of %d", n, d, from, to, hop, path, long)
							}
						}
						if all != far {
							t.Errorf("Path(%d, %d, %d, %d, %d) = %v is %d steps long, want %d", n, d, from, to, hop, path, all, far)
						}
					}
				}
			}
		}
	}
}

// noPath fails if there is such a path, or if anything is answered beside that there is not.
func noPath(t *testing.T, n int, d api.Dir, from, to, hop int) {
	t.Helper()
	if got, ok := rings.Path(n, d, from, to, hop); ok || got != nil {
		t.Errorf("Path(%d, %d, %d, %d, %d) = %v, %v, want none", n, d, from, to, hop, got, ok)
	}
}

func TestPathOfWhatIsNot(t *testing.T) { // P3.3
	for _, n := range sizes() {
		for _, d := range bothWays {
			for from := range n {
				noPath(t, n, d, from, from, 1)
				noPath(t, n, d, from, from, 2)
				noPath(t, n, d, from, walked(n, d, from, 1), 2)
				for to := range n {
					for _, hop := range noHops {
						noPath(t, n, d, from, to, hop)
					}
				}
			}
		}
	}
	for _, hop := range []int{0, 1, 2, 3} {
		wrong(func(n int, d api.Dir, from, to int) { noPath(t, n, d, from, to, hop) })
	}
}

func TestPlace(t *testing.T) { // P3.4
	for _, c := range []struct {
		n           int
		d           api.Dir
		first, node int
		want        int
	}{
		{6, ccw, 2, 1, 2},
		{6, ccw, 2, 2, 1},
		{6, ccw, 2, 3, 0},
		{6, ccw, 2, 4, 5},
		{6, cw, 2, 2, 0},
		{6, cw, 2, 3, 1},
		{6, cw, 2, 4, 2},
		{6, cw, 2, 1, 5},
		{6, cw, 5, 0, 1},
		{6, ccw, 5, 0, 0},
		{6, ccw, 5, 5, 1},
		{6, ccw, 5, 4, 2},
	} {
		if got := rings.Place(c.n, c.d, c.first, c.node); got != c.want {
			t.Errorf("Place(%d, %d, %d, %d) = %d, want %d", c.n, c.d, c.first, c.node, got, c.want)
		}
	}
	for _, n := range sizes() {
		for first := range n {
			for node := range n {
				if got, want := rings.Place(n, cw, first, node), counted(n, cw, first, node); got != want {
					t.Errorf("Place(%d, CW, %d, %d) = %d, want %d", n, first, node, got, want)
				}
				if got, want := rings.Place(n, ccw, first, node), counted(n, ccw, beside(n, cw, first), node); got != want {
					t.Errorf("Place(%d, CCW, %d, %d) = %d, want %d", n, first, node, got, want)
				}
			}
		}
	}
}

func TestPlaceOfWhatIsNot(t *testing.T) { // P3.4
	wrong(func(n int, d api.Dir, first, node int) {
		if got := rings.Place(n, d, first, node); got != -1 {
			t.Errorf("Place(%d, %d, %d, %d) = %d, want -1", n, d, first, node, got)
		}
	})
}

func TestDistancesBothWaysAreTheRing(t *testing.T) { // P3.5
	for _, n := range sizes() {
		for from := range n {
			for to := range n {
				there, back := rings.Distance(n, cw, from, to), rings.Distance(n, ccw, from, to)
				if from == to && (there != 0 || back != 0) || from != to && there+back != n {
					t.Errorf("of %d nodes, from %d to %d: %d and %d", n, from, to, there, back)
				}
			}
		}
	}
}

func TestPathsHaveNoNodeInCommon(t *testing.T) { // P3.5
	for _, n := range sizes() {
		for from := range n {
			for to := range n {
				paths, seen := 0, map[int]int{from: 1, to: 1}
				for _, d := range bothWays {
					for _, hop := range bothHops {
						path, ok := rings.Path(n, d, from, to, hop)
						if ok {
							paths++
						}
						for _, x := range path {
							if seen[x]++; seen[x] > 1 {
								t.Errorf("of %d nodes, from %d to %d: node %d twice", n, from, to, x)
							}
						}
					}
				}
				want := 4
				switch to {
				case from:
					want = 0
				case beside(n, cw, from), beside(n, ccw, from):
					want = 3
				}
				if paths != want {
					t.Errorf("of %d nodes, from %d to %d: %d paths, want %d", n, from, to, paths, want)
				}
			}
		}
	}
}

func TestPlacesGrowFromSourceToNode(t *testing.T) { // P3.5
	for _, n := range sizes() {
		for _, d := range bothWays {
			for first := range n {
				for node := range n {
					place := rings.Place(n, d, first, node)
					for _, hop := range bothHops {
						source := rings.Place(n, d, first, rings.Source(n, d, node, hop))
						if place >= hop && place != source+hop {
							t.Errorf("of %d nodes, %d, pair of %d: node %d at %d, its source by hop %d at %d", n, d, first, node, place, hop, source)
						}
					}
				}
			}
		}
	}
}

func TestPathIsItsOwn(t *testing.T) { // R4, of P3.3
	for _, n := range sizes() {
		for _, d := range bothWays {
			for _, hop := range bothHops {
				for to := range n {
					first, _ := rings.Path(n, d, 0, to, hop)
					if cap(first) != len(first) {
						t.Errorf("Path(%d, %d, 0, %d, %d): room behind: len %d, cap %d", n, d, to, hop, len(first), cap(first))
					}
					second, _ := rings.Path(n, d, 0, to, hop)
					want := slices.Clone(second)
					for i := range first {
						first[i] = 99
					}
					third, _ := rings.Path(n, d, 0, to, hop)
					if !slices.Equal(second, want) || !slices.Equal(third, want) {
						t.Errorf("Path(%d, %d, 0, %d, %d): two answers share memory", n, d, to, hop)
					}
				}
			}
		}
	}
}
