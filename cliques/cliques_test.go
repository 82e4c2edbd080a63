package cliques_test

import (
	"math"
	"math/rand"
	"slices"
	"strconv"
	"testing"

	"sennit/ages"
	"sennit/api"
	"sennit/cliques"
	"sennit/words"
)

// most: the greatest age, as the document tells it.
const most = 1099511627776

// unset: in place of an age, of an entry that is not set.
const unset = math.MinInt64 + 7

// noAges: numbers of ticks that are no age.
func noAges() []int64 {
	return []int64{-1, -2, -8, -32, -65536, -most, math.MinInt64 + 1, math.MinInt64, most + 1, most + 2, most + 8, 2 * most, 1 << 62, math.MaxInt64 - 1, math.MaxInt64}
}

// noNumbers: of nodes that may not be so many.
func noNumbers() []int {
	return []int{math.MinInt, math.MinInt + 1, -65536, -16, -4, -1, 0, 1, 2, 3, 17, 18, 32, 65536, 1 << 62, math.MaxInt - 1, math.MaxInt}
}

// what is looked at, for a test that fails.
func what(names string, numbers ...int) string {
	for _, x := range numbers {
		names += " " + strconv.Itoa(x)
	}
	return names
}

// entry of an age: each k gives another cell beside it, not always a plain one.
func entry(age int64, k int) words.Held {
	c := api.Cell{Age: age, Offer: api.Said{Is: k%2 > 0, At: int64(k), P: api.Payload{Kind: api.Kind(k % 4)}}, Report: api.Said{At: -int64(k)}}
	c.View.Command, c.View.Mode = int8(k%11-2), uint8(k)
	if age == unset {
		// Ages that are left in it are such as the others have, least, or greatest.
		c.Age = []int64{5, 0, 7, most}[k%4]
	}
	return words.Held{Is: age != unset, Cell: c}
}

// vector of such ages.
func vector(list ...int64) []words.Held {
	out := []words.Held{}
	for i, age := range list {
		out = append(out, entry(age, i+len(list)))
	}
	return out
}

// agesOf a vector's entries, for a test that fails.
func agesOf(w []words.Held) []string {
	out := []string{}
	for _, h := range w {
		if h.Is {
			out = append(out, strconv.FormatInt(h.Cell.Age, 10))
		} else {
			out = append(out, "unset")
		}
	}
	return out
}

// even, as the document words it.
func even(n int, w []words.Held, age int64) bool {
	if n < 4 || n > 16 || age < 0 || age > most {
		return false
	}
	missing := n
	for i, h := range w {
		if i < n && h.Is && h.Cell.Age == age {
			missing--
		}
	}
	return missing <= 1
}

// wantEven fails if a vector is even, and should not be, or the other way round.
func wantEven(t *testing.T, of string, n int, w []words.Held, age int64, want bool) {
	t.Helper()
	if got := cliques.Even(n, w, age); got != want {
		t.Fatalf("%s: Even(%d, %v, %d) = %v", of, n, agesOf(w), age, got)
	}
}

func TestEvenAsTheDocumentHasIt(t *testing.T) { // P17.1: its examples
	wantEven(t, "one other", 4, vector(5, 5, 9, 5), 5, true)
	wantEven(t, "two others", 4, vector(5, 5, 9, 9), 5, false)
}

// others: in place of an age 5, what is not just that; of the last one the entry is not set.
func others() []int64 { return append(noAges(), 0, 4, 6, 1000, most-1, most, unset) }

func TestAllButOneHaveTheAge(t *testing.T) { // P17.1: each of these may be the one that has not
	for n := api.MinNodes; n <= api.MaxNodes; n++ {
		all := slices.Repeat([]int64{5}, n)
		wantEven(t, "all", n, vector(all...), 5, true)
		for at := range n {
			for _, other := range others() {
				list := slices.Clone(all)
				list[at] = other
				wantEven(t, what("one other, at", at), n, vector(list...), 5, true)
				wantEven(t, what("by the other one, at", at), n, vector(list...), other, false)
			}
		}
	}
}

func TestTwoHaveNot(t *testing.T) { // P17.1: wherever they stand, and whatever they have, alike or not
	for n := api.MinNodes; n <= api.MaxNodes; n++ {
		for a := range n {
			for b := range a {
				for i, other := range others() {
					list := slices.Repeat([]int64{5}, n)
					list[a], list[b] = other, other
					wantEven(t, what("two others, alike, at", b, a), n, vector(list...), 5, false)
					list[b] = others()[(i+a)%len(others())]
					wantEven(t, what("two others, at", b, a), n, vector(list...), 5, false)
				}
			}
		}
	}
}

func TestHowManyHaveTheAge(t *testing.T) { // P17.1: of each number of entries that have it, and of others that have another age, are not set, or are missing
	for n := api.MinNodes; n <= api.MaxNodes; n++ {
		for have := range n + 1 {
			list := slices.Repeat([]int64{5}, have)
			wantEven(t, "missing", n, vector(list...), 5, have >= n-1)
			for len(list) < n {
				list = append(list, []int64{6, unset, -1, 0}[len(list)%4])
			}
			wantEven(t, "other ones last", n, vector(list...), 5, have >= n-1)
			slices.Reverse(list)
			wantEven(t, "other ones first", n, vector(list...), 5, have >= n-1)
		}
	}
}

func TestEntriesBeyondTheNodes(t *testing.T) { // P17.1: the first N count alone
	for n := api.MinNodes; n <= api.MaxNodes; n++ {
		for more := range 20 {
			list := append(slices.Repeat([]int64{5}, n-2), 9, 9)
			wantEven(t, what("that have it", more), n, vector(append(list, slices.Repeat([]int64{5}, more)...)...), 5, false)
			list[n-1] = 5
			wantEven(t, what("that have another age", more), n, vector(append(list, slices.Repeat([]int64{9}, more)...)...), 5, true)
			list[n-1] = unset
			wantEven(t, what("beside one that is not set", more), n, vector(append(list, slices.Repeat([]int64{5}, more)...)...), 5, false)
		}
		w := vector(slices.Repeat([]int64{5}, n)...)
		wantEven(t, "in the room behind", n, w[:n-2], 5, false)
	}
}

func TestEntriesThatAreNotSet(t *testing.T) { // P17.1: whatever age is left in them
	for n := api.MinNodes; n <= api.MaxNodes; n++ {
		for gone := range n + 1 {
			w := vector(slices.Repeat([]int64{5}, n)...)
			for i := range gone {
				w[i].Is = false
			}
			wantEven(t, what("not set", gone), n, w, 5, gone <= 1)
		}
	}
}

func TestAgesByWhichAVectorIsEven(t *testing.T) { // P17.1: 0 to MaxAge, though all had another one
	for n := api.MinNodes; n <= api.MaxNodes; n++ {
		for _, age := range []int64{0, 1, 5, 1 << 31, 1 << 32, most - 1, most} {
			wantEven(t, "an age", n, vector(slices.Repeat([]int64{age}, n)...), age, true)
			for _, by := range []int64{age - 1, age + 1, age + 1<<32, age + 1<<40, -age - 1} {
				wantEven(t, "by another one", n, vector(slices.Repeat([]int64{age}, n)...), by, false)
			}
		}
		for _, age := range noAges() {
			wantEven(t, "no age", n, vector(slices.Repeat([]int64{age}, n)...), age, false)
			wantEven(t, "by no age", n, vector(slices.Repeat([]int64{5}, n)...), age, false)
		}
		wantEven(t, "nothing, by none", n, make([]words.Held, n), -1, false)
		wantEven(t, "nothing, by 0", n, make([]words.Held, n), 0, false)
	}
}

func TestEvenOfNumbersThatMayNotBe(t *testing.T) { // P17.1: it is not, however many entries there are
	for _, n := range noNumbers() {
		for _, entries := range []int{0, 1, 2, 3, 4, 16, 17, 18, 40} {
			wantEven(t, what("entries", entries), n, vector(slices.Repeat([]int64{5}, entries)...), 5, false)
			wantEven(t, what("entries, by none", entries), n, make([]words.Held, entries), -1, false)
		}
		wantEven(t, "no vector", n, nil, 5, false)
		wantEven(t, "no vector", n, nil, -1, false)
	}
	for n := api.MinNodes; n <= api.MaxNodes; n++ {
		wantEven(t, "no vector", n, nil, 0, false)
		wantEven(t, "an empty one", n, []words.Held{}, 0, false)
	}
}

// anyAge: mostly 5, or near it.
func anyAge(r *rand.Rand) int64 {
	switch r.Intn(12) {
	case 0:
		return unset
	case 1:
		return others()[r.Intn(len(others()))]
	case 2:
		return 4 + r.Int63n(3)
	}
	return 5
}

func TestEvenWhateverIsHandedIn(t *testing.T) { // P17.1: as the document words it; R1: the vector stays as it was
	r, yes, no := rand.New(rand.NewSource(1)), 0, 0
	for range 100000 {
		n, list := 2+r.Intn(17), []int64{}
		for range max(0, n-2+r.Intn(5)) {
			list = append(list, anyAge(r))
		}
		w, age := vector(list...), []int64{5, 5, 5, 4, 6, -1, most}[r.Intn(7)]
		before := slices.Clone(w)
		want := even(n, w, age)
		wantEven(t, "any", n, w, age, want)
		if !slices.Equal(w, before) {
			t.Fatalf("Even(%d, %v, %d) changed it", n, agesOf(before), age)
		}
		if want {
			yes++
		} else {
			no++
		}
	}
	if yes < 5000 || no < 5000 {
		t.Errorf("%d are even, %d are not", yes, no)
	}
}

func TestEvenByTheCommonAgeAlone(t *testing.T) { // P17.3: an age by which a vector is even is its common age
	r, yes := rand.New(rand.NewSource(2)), 0
	for range 100000 {
		n, list := api.MinNodes+r.Intn(13), []int64{}
		for range n {
			list = append(list, anyAge(r))
		}
		w := vector(list...)
		for _, age := range append(list, 4, 5, 6) {
			if cliques.Even(n, w, age) {
				yes++
				if common := ages.Common(n, w); common != age {
					t.Fatalf("%v is even by %d, and its common age is %d", agesOf(w), age, common)
				}
			}
		}
	}
	if yes < 10000 {
		t.Errorf("%d are even", yes)
	}
}
