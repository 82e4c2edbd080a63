package cliques_test

import (
	"math/rand"
	"slices"
	"testing"

	"sennit/api"
	"sennit/cliques"
	"sennit/words"
)

// newClique of so many nodes.
func newClique(t *testing.T, n int) *cliques.Clique {
	t.Helper()
	c, e := cliques.New(n)
	if c == nil || e != api.OK {
		t.Fatalf("New(%d) = %v, %d", n, c, e)
	}
	return c
}

// evenOne: a vector of so many nodes, all of which have an age.
func evenOne(n int, age int64) []words.Held { return vector(slices.Repeat([]int64{age}, n)...) }

// oddOne: of two of them another one.
func oddOne(n int, age int64) []words.Held {
	return vector(append(slices.Repeat([]int64{age}, n-2), age+1, age+1)...)
}

// record of a clique: of each tick, whether the vector was even.
type record struct {
	n   int
	all []bool
}

// step: is it to be sure, as the document words it?
func (r *record) step(w []words.Held, common int64) bool {
	r.all = append(r.all, even(r.n, w, common))
	last := len(r.all) - 1
	for ahead := range 2 * r.n {
		if last-ahead < 0 || !r.all[last-ahead] {
			return false
		}
	}
	return true
}

// both: a clique, and the record of what it has to answer.
type both struct {
	c *cliques.Clique
	r *record
}

func newBoth(t *testing.T, n int) both {
	t.Helper()
	return both{c: newClique(t, n), r: &record{n: n}}
}

// step of both; it fails if they answer something unlike.
func (b both) step(t *testing.T, w []words.Held, common int64) bool {
	t.Helper()
	want := b.r.step(w, common)
	wantSure(t, b.c, what("of nodes, tick", b.r.n, len(b.r.all)-1), w, common, want)
	return want
}

// wantSure fails if a clique is sure at this tick, and should not be, or the other way round.
func wantSure(t *testing.T, c *cliques.Clique, of string, w []words.Held, common int64, want bool) {
	t.Helper()
	if got := c.Step(w, common); got != want {
		t.Fatalf("%s: Step(%v, %d) = %v", of, agesOf(w), common, got)
	}
}

func TestCliquesOfNodesThatMayNotBe(t *testing.T) { // P17.2: none, and the error; of those that may be there is one
	for _, n := range noNumbers() {
		if c, e := cliques.New(n); c != nil || e != api.ErrArg {
			t.Errorf("New(%d) = %v, %d, want ErrArg", n, c, e)
		}
	}
	for n := api.MinNodes; n <= api.MaxNodes; n++ {
		newClique(t, n)
	}
}

func TestSureAsTheDocumentHasIt(t *testing.T) { // P17.2: its example
	c := newClique(t, 4)
	for i := 1; i <= 20; i++ {
		wantSure(t, c, what("vector", i), vector(5, 5, 9, 5), 5, i >= 8)
	}
}

func TestSureFromTwoNVectorsOn(t *testing.T) { // P17.2: neither earlier nor later, and then for as long as they are even: the count does not wrap round
	for n := api.MinNodes; n <= api.MaxNodes; n++ {
		c, w := newClique(t, n), evenOne(n, 7)
		for tick := range 70000 {
			wantSure(t, c, what("of nodes, tick", n, tick), w, 7, tick >= 2*n-1)
		}
		wantSure(t, c, "an odd one", oddOne(n, 7), 7, false)
		for tick := range 4 * n {
			wantSure(t, c, what("behind that", n, tick), w, 7, tick >= 2*n-1)
		}
	}
}

func TestOneVectorThatIsNotEven(t *testing.T) { // P17.2: at each of the ticks it counts anew, whatever is wrong with it
	for n := api.MinNodes; n <= api.MaxNodes; n++ {
		good := evenOne(n, 7)
		wrongs := []struct {
			w      []words.Held
			common int64
		}{{nil, 7}, {[]words.Held{}, -1}, {oddOne(n, 7), 7}, {good[:n-2], 7}, {good, -1}, {good, 6}, {good, 8}, {evenOne(n, -1), -1}, {evenOne(n, most+1), most + 1}, {make([]words.Held, n), 0}}
		for at := range 5 * n {
			b, wrong := newBoth(t, n), wrongs[at%len(wrongs)]
			for tick := range 8 * n {
				if tick == at {
					b.step(t, wrong.w, wrong.common)
				} else if b.step(t, good, 7) != (tick < at && tick >= 2*n-1 || tick >= at+2*n) {
					t.Fatalf("of %d nodes, wrong at tick %d: tick %d is told otherwise", n, at, tick)
				}
			}
		}
	}
}

func TestNeverSureWithOneAgainAndAgain(t *testing.T) { // P17.2: 2N - 1 even ones in a row are too few, and 2N are just enough
	for n := api.MinNodes; n <= api.MaxNodes; n++ {
		for _, row := range []int{1, n, 2*n - 1, 2 * n, 2*n + 1} {
			c := newClique(t, n)
			for tick := range 10 * (row + 1) {
				of := what("of nodes, in a row, tick", n, row, tick)
				if tick%(row+1) == row {
					wantSure(t, c, of, oddOne(n, 3), 3, false)
				} else {
					wantSure(t, c, of, evenOne(n, 3), 3, tick%(row+1) >= 2*n-1)
				}
			}
		}
	}
}

func TestEachVectorByItsOwnAge(t *testing.T) { // P17.2: it is asked of each whether it is even, not whether the ages count on
	for n := api.MinNodes; n <= api.MaxNodes; n++ {
		c := newClique(t, n)
		for tick := range 4 * n {
			age := []int64{0, most, 17, 17, 3, int64(tick)}[tick%6]
			wantSure(t, c, what("of nodes, tick", n, tick), evenOne(n, age), age, tick >= 2*n-1)
		}
	}
}

func TestCliquesOfAsManyNodesAsTheyAre(t *testing.T) { // P17.2: vectors of fewer and of more entries
	for n := api.MinNodes; n <= api.MaxNodes; n++ {
		for entries := range 2 * n {
			c := newClique(t, n)
			for tick := range 4 * n {
				wantSure(t, c, what("of nodes, entries, tick", n, entries, tick), evenOne(entries, 7), 7, entries >= n-1 && tick >= 2*n-1)
			}
		}
	}
}

func TestOfNoClique(t *testing.T) { // P17.2, R3: one that is not there, or that no call made
	var unmade cliques.Clique
	for _, c := range []*cliques.Clique{nil, {}, &unmade, new(cliques.Clique)} {
		for _, entries := range []int{0, 3, 4, 16, 17} {
			for range 70 {
				wantSure(t, c, what("entries", entries), evenOne(entries, 5), 5, false)
				wantSure(t, c, what("entries", entries), nil, -1, false)
			}
			for range 70 {
				wantSure(t, c, what("entries", entries), evenOne(entries, 0), 0, false)
			}
		}
	}
}

// anyStep: what a clique may be told at a tick: mostly an even vector, the more often the more nodes there are.
func anyStep(r *rand.Rand, n int) (w []words.Held, common int64) {
	if r.Intn(3*n) > 0 {
		w = evenOne(n, 5)
		w[r.Intn(n)] = entry(anyAge(r), r.Intn(40))
		return w[:n-r.Intn(2)*r.Intn(2)], 5
	}
	list := []int64{}
	for range r.Intn(2 * n) {
		list = append(list, anyAge(r))
	}
	return vector(list...), []int64{5, 4, 6, -1, most, anyAge(r)}[r.Intn(6)]
}

func TestWhateverACliqueIsTold(t *testing.T) { // P17.2: as the document words it, tick by tick; R1: neither kept nor changed
	sure, unsure := 0, 0
	for n := api.MinNodes; n <= api.MaxNodes; n++ {
		for run := range 10 {
			b, r := newBoth(t, n), rand.New(rand.NewSource(int64(100*n+run)))
			for range 1000 {
				w, common := anyStep(r, n)
				before := slices.Clone(w)
				if b.step(t, w, common) {
					sure++
				} else {
					unsure++
				}
				if !slices.Equal(w, before) {
					t.Fatalf("Step(%v, %d) changed it", agesOf(before), common)
				}
				for i := range w {
					w[i] = words.Held{}
				}
			}
		}
	}
	if sure < 10000 || unsure < 10000 {
		t.Errorf("%d sure, %d not", sure, unsure)
	}
}

func TestCliquesTurnByTurn(t *testing.T) { // R5: each as it would be alone
	r, list := rand.New(rand.NewSource(5)), []both{}
	for n := api.MinNodes; n <= api.MaxNodes; n++ {
		list = append(list, newBoth(t, n), newBoth(t, n))
	}
	for range 40000 {
		b := list[r.Intn(len(list))]
		w, common := anyStep(r, b.r.n)
		b.step(t, w, common)
	}
}

func TestCliquesThatAreCopied(t *testing.T) { // R5: each goes on as one of its own, from any tick on
	for n := api.MinNodes; n <= api.MaxNodes; n++ {
		for ticks := range 4 * n {
			r, first := rand.New(rand.NewSource(int64(n+100*ticks))), newBoth(t, n)
			for range ticks {
				first.step(t, evenOne(n, 1), 1)
			}
			c := *first.c
			second := both{c: &c, r: &record{n: n, all: slices.Clone(first.r.all)}}
			for range 6 * n {
				w, common := anyStep(r, n)
				[]both{first, second}[r.Intn(2)].step(t, w, common)
			}
		}
	}
}
