package cliques_test

import (
	"math/rand"
	"slices"
	"testing"

	"sennit/ages"
	"sennit/api"
	"sennit/cliques"
	"sennit/words"
)

// evenAges by which a vector is even, of all that it may be.
func evenAges(n int, w []words.Held, of []int64) []int64 {
	out := []int64{}
	for _, age := range of {
		if cliques.Even(n, w, age) {
			out = append(out, age)
		}
	}
	return out
}

// inAllWays: lists of so many numbers, each of them one of these; it is the same memory each time.
func inAllWays(long int, of []int64, each func([]int64)) {
	list := make([]int64, long)
	var place func(at int)
	place = func(at int) {
		if at == long {
			each(list)
			return
		}
		for _, x := range of {
			list[at] = x
			place(at + 1)
		}
	}
	place(0)
}

// heldOf what all said: what each that is not faulty said, or nothing (by bits of gone), and of the faulty one anything.
func heldOf(said []int64, gone, bad int, anything int64) []words.Held {
	list := slices.Clone(said)
	for i := range list {
		if gone>>i&1 > 0 {
			list[i] = unset
		}
	}
	list[bad] = anything
	return vector(list...)
}

func TestTwoThatAreEvenAreEvenAlike(t *testing.T) { // P17.3: of 4 nodes: all that they may say, and hold
	of := []int64{0, 1, most}
	anything := append(of, unset, -1, most+1)
	evens := 0
	for bad := range 4 {
		inAllWays(4, of, func(said []int64) {
			if said[bad] != 0 {
				// What it says is not held by anybody, but for anything.
				return
			}
			seen := []int64{}
			for gone := range 16 {
				for _, x := range anything {
					w := heldOf(said, gone, bad, x)
					for _, age := range evenAges(4, w, anything) {
						if evens++; ages.Common(4, w) != age {
							t.Fatalf("%v is even by %d, and its common age is %d", agesOf(w), age, ages.Common(4, w))
						}
						seen = append(seen, age)
					}
				}
			}
			if len(slices.Compact(seen)) > 1 {
				t.Fatalf("said are %v, by node %d anything: vectors are even by %v", said, bad, seen)
			}
		})
	}
	if evens < 100 {
		t.Errorf("%d are even", evens)
	}
}

func TestTwoOfManyThatAreEvenAreEvenAlike(t *testing.T) { // P17.3: two ages, of which one is had by any number of the nodes, and the faulty one tells each what helps it most
	for n := api.MinNodes; n <= api.MaxNodes; n++ {
		for have := range n + 1 {
			for bad := range n {
				said := slices.Concat(slices.Repeat([]int64{7}, have), slices.Repeat([]int64{9}, n-have))
				for gone := range n + 1 {
					first, second := heldOf(said, 1<<gone, bad, 7), heldOf(said, 1<<gone, bad, 9)
					if a, b := cliques.Even(n, first, 7), cliques.Even(n, second, 9); a && b {
						t.Fatalf("%v is even by 7, %v by 9", agesOf(first), agesOf(second))
					}
				}
			}
		}
	}
}

// pair of right nodes, and what they are told.
type pair struct {
	cliques [2]*cliques.Clique
	clocks  [2]*ages.Clock
}

func newPair(t *testing.T, n int) pair {
	t.Helper()
	p := pair{}
	for i := range p.clocks {
		p.cliques[i] = newClique(t, n)
		p.clocks[i], _ = ages.New(n)
	}
	return p
}

// tick of both, with a vector each: how many of them are sure; it fails if both are, and their clocks show something unlike.
func (p pair) tick(t *testing.T, n int, told [2][]words.Held, cold [2]int64) int {
	t.Helper()
	shows, sure := [2]int64{}, 0
	for i, w := range told {
		common := ages.Common(n, w)
		_, shows[i] = p.clocks[i].Step(common, cold[i])
		if p.cliques[i].Step(w, common) {
			sure++
		}
	}
	if sure == 2 && shows[0] != shows[1] {
		t.Fatalf("of %d nodes: both are sure, and show %d and %d", n, shows[0], shows[1])
	}
	return sure
}

func TestTwoThatAreSureShowTheSame(t *testing.T) { // P17.3: whatever both were told ahead of that, whatever their cold ages are, and whatever one node tells each of them
	count := [3]int{}
	for n := api.MinNodes; n <= api.MaxNodes; n++ {
		for run := range 12 {
			r, p, bad := rand.New(rand.NewSource(int64(100*n+run))), newPair(t, n), run%n
			age := int64(1000)
			for range 60 * n {
				if age++; r.Intn(6*n) == 0 {
					age = []int64{0, r.Int63n(2000), most - r.Int63n(50), most + 1}[r.Intn(4)]
				}
				said := slices.Repeat([]int64{age}, n)
				for range r.Intn(4*n) / (4*n - 2) {
					// Few have another age.
					said[r.Intn(n)] = age + r.Int63n(3)
				}
				told := [2][]words.Held{}
				for i := range told {
					gone := 0
					if r.Intn(8*n) == 0 {
						gone = r.Intn(1<<n) & r.Intn(1<<n)
					}
					told[i] = heldOf(said, gone, bad, []int64{unset, age, age + 1, age - 1, most, 0, -1}[r.Intn(7)])
				}
				count[p.tick(t, n, told, [2]int64{r.Int63n(3000), r.Int63n(3000)})]++
			}
		}
	}
	if slices.Min(count[:]) < 1000 {
		t.Errorf("so often none, one or both are sure: %v", count)
	}
}
