package ages_test

import (
	"math"
	"math/rand"
	"slices"
	"strconv"
	"testing"

	"sennit/ages"
	"sennit/api"
	"sennit/words"
)

// most: the greatest age, as the document tells it.
const most = 1099511627776

// unset: in place of an age, of an entry that is not set.
const unset = math.MinInt64 + 7

// noAges: numbers of ticks that are no age.
func noAges() []int64 {
	return []int64{-1, -2, -8, -32, -65536, -most, math.MinInt64 + 1, math.MinInt64, most + 1, most + 2, most + 8, most + 32, 2 * most, 1 << 62, math.MaxInt64 - 32, math.MaxInt64 - 1, math.MaxInt64}
}

// noNumbers: of nodes that may not be so many.
func noNumbers() []int {
	return []int{math.MinInt, math.MinInt + 1, -65536, -16, -4, -1, 0, 1, 2, 3, 17, 18, 32, 65536, 1 << 62, math.MaxInt - 1, math.MaxInt}
}

// what is looked at, for a test that fails.
func what(names string, numbers ...int) string {
	for _, x := range numbers {
		names += " " + strconv.Itoa(x)
	}
	return names
}

// entry of an age: each k gives another cell beside it, not always a plain one.
func entry(age int64, k int) words.Held {
	c := api.Cell{Age: age, Offer: api.Said{Is: k%2 > 0, At: int64(k), P: api.Payload{Kind: api.Kind(k % 4)}}, Report: api.Said{At: -int64(k)}}
	c.View.Command, c.View.Mode = int8(k%11-2), uint8(k)
	if age == unset {
		// Ages that are left in it are least, greatest, or in between.
		c.Age = []int64{0, 7, 1000, most}[k%4]
	}
	return words.Held{Is: age != unset, Cell: c}
}

// vector of such ages.
func vector(list ...int64) []words.Held {
	out := []words.Held{}
	for i, age := range list {
		out = append(out, entry(age, i+len(list)))
	}
	return out
}

// told: the ages that count, of so many nodes.
func told(n int, w []words.Held) []int64 {
	out := []int64{}
	for i := 0; i < n && i < len(w); i++ {
		if w[i].Is && w[i].Cell.Age >= 0 && w[i].Cell.Age <= most {
			out = append(out, w[i].Cell.Age)
		}
	}
	return out
}

// common age, as the document words it, by how many ages are lesser, and how many not greater.
func common(n int, w []words.Held) int64 {
	all := told(n, w)
	if len(all) < n-1 {
		return -1
	}
	place := (len(all) - 1) / 2
	for _, x := range all {
		lesser, notGreater := 0, 0
		for _, y := range all {
			if y < x {
				lesser++
			}
			if y <= x {
				notGreater++
			}
		}
		if lesser <= place && place < notGreater {
			return x
		}
	}
	panic("there is one at each place")
}

// wantCommon fails if the common age is another one.
func wantCommon(t *testing.T, of string, n int, w []words.Held, want int64) {
	t.Helper()
	if got := ages.Common(n, w); got != want {
		t.Fatalf("%s: Common(%d, %v) = %d, want %d", of, n, told(len(w), w), got, want)
	}
}

func TestCommonAsTheDocumentHasIt(t *testing.T) { // P16.1: its examples
	wantCommon(t, "four", 4, vector(5, 9, 7, 3), 5)
	wantCommon(t, "three", 4, vector(5, 9, 7, unset), 7)
	wantCommon(t, "two", 4, vector(5, 9), -1)
}

func TestTheLowerMiddleOne(t *testing.T) { // P16.1: of all N, and of N - 1
	for _, x := range []struct {
		list []int64
		want int64
	}{
		{[]int64{1, 2, 3, 4}, 2},
		{[]int64{4, 3, 2, 1}, 2},
		{[]int64{1, 2, 3, unset}, 2},
		{[]int64{unset, 1, 2, 9}, 2},
		{[]int64{0, 0, 0, 0}, 0},
		{[]int64{0, 0, 0, unset}, 0},
		{[]int64{0, most, 0, most}, 0},
		{[]int64{0, most, most, unset}, most},
		{[]int64{most, most, most, most}, most},
		{[]int64{10, 9, 100, 1}, 9}, // by numbers, not by digits
		{[]int64{1, 2, 3, 4, 5}, 3},
		{[]int64{1, 2, unset, 4, 5}, 2},
		{[]int64{9, 9, 1, 1, 5, 7}, 5},
		{[]int64{9, 9, 1, 1, unset, 7}, 7},
		{[]int64{16, 15, 14, 13, 12, 11, 10, 9, 8, 7, 6, 5, 4, 3, 2, 1}, 8},
		{[]int64{16, 15, 14, 13, 12, 11, 10, 9, unset, 7, 6, 5, 4, 3, 2, 1}, 9},
	} {
		wantCommon(t, "list", len(x.list), vector(x.list...), x.want)
	}
}

// inOrders: a list in all orders, one by one; it is the same memory each time.
func inOrders(list []int64, each func([]int64)) {
	var place func(at int)
	place = func(at int) {
		if at == len(list) {
			each(list)
		}
		for i := at; i < len(list); i++ {
			list[at], list[i] = list[i], list[at]
			place(at + 1)
			list[at], list[i] = list[i], list[at]
		}
	}
	place(0)
}

func TestInAnyOrder(t *testing.T) { // P16.1: whatever node an age is of
	for _, x := range []struct {
		list []int64
		want int64
	}{
		{[]int64{3, 5, 7, 9}, 5},
		{[]int64{3, 3, 7, 9}, 3},
		{[]int64{3, 7, 7, 9}, 7},
		{[]int64{5, 7, 9, unset}, 7},
		{[]int64{5, 7, 9, -1}, 7},
		{[]int64{0, most, most + 1, 1}, 1},
		{[]int64{7, 9, unset, -1}, -1},
		{[]int64{1, 2, 3, 4, 5}, 3},
		{[]int64{0, 2, 4, most, most + 1}, 2},
		{[]int64{1, 1, 2, 2, 3, 3}, 2},
		{[]int64{1, 1, 2, 3, 3, math.MinInt64}, 2},
		{[]int64{1, 4, 9, 16, 25, 36, 49}, 16},
		{[]int64{1, 4, 9, 16, 25, 36, unset}, 9},
		{[]int64{1, 4, 9, 16, 25, most + 1, unset}, -1},
	} {
		inOrders(x.list, func(list []int64) { wantCommon(t, "order", len(list), vector(list...), x.want) })
	}
}

func TestHowManyAreSet(t *testing.T) { // P16.1: none to all of N: there is one, if all are, or all but one, whichever that is
	for n := api.MinNodes; n <= api.MaxNodes; n++ {
		for _, no := range append(noAges(), unset) {
			for many := range n + 1 {
				for from := range n {
					list := make([]int64, n)
					for k := range n {
						list[(from+k)%n] = no
						if k < many {
							list[(from+k)%n] = int64(100 * (k + 1))
						}
					}
					want := int64(-1)
					if many >= n-1 {
						want = int64(100 * (1 + (many-1)/2))
					}
					wantCommon(t, what("nodes, many, from", n, many, from), n, vector(list...), want)
				}
			}
		}
	}
}

func TestEdgesOfAges(t *testing.T) { // P16.1: 0 and MaxAge count, and what is below, or above, does not, at each place
	for n := api.MinNodes; n <= api.MaxNodes; n++ {
		for at := range n {
			list := make([]int64, n)
			for k := range list {
				list[k] = 10 + int64(k%3)
			}
			for _, age := range append(noAges(), 0, 1, 9, 10, 11, 12, 13, most-1, most) {
				list[at] = age
				w := vector(list...)
				wantCommon(t, what("nodes, at", n, at), n, w, common(n, w))
				list[(at+1)%n] = unset
				w = vector(list...)
				want := int64(-1)
				if age >= 0 && age <= most {
					want = common(n, w)
				}
				wantCommon(t, what("nodes, one not set, at", n, at), n, w, want)
				list[(at+1)%n] = 10 + int64((at+1)%n%3)
			}
		}
		wantCommon(t, what("least of all", n), n, vector(make([]int64, n)...), 0)
		wantCommon(t, what("greatest of all", n), n, vector(slices.Repeat([]int64{most}, n)...), most)
		wantCommon(t, what("above all", n), n, vector(slices.Repeat([]int64{most + 1}, n)...), -1)
		wantCommon(t, what("below all", n), n, vector(slices.Repeat([]int64{-1}, n)...), -1)
	}
}

func TestSoManyEntries(t *testing.T) { // P16.1: fewer than there are nodes, as many, more: what is missing is not set, what is beyond does not count
	for n := api.MinNodes; n <= api.MaxNodes; n++ {
		all := vector(make([]int64, 3*n)...)
		for k := range all {
			all[k].Cell.Age = int64(1000 - k)
		}
		for many := range len(all) + 1 {
			want := int64(-1)
			if many >= n-1 {
				m := min(many, n)
				want = int64(1000 - (m - 1 - (m-1)/2))
			}
			wantCommon(t, what("nodes, entries", n, many), n, all[:many], want)
			wantCommon(t, what("nodes, entries, no room behind", n, many), n, all[:many:many], want)
		}
		// One too few within, and all beyond.
		all[0].Is, all[n-1].Is = false, false
		wantCommon(t, what("nodes, beyond", n), n, all, -1)
		wantCommon(t, what("nodes, nil", n), n, nil, -1)
		wantCommon(t, what("nodes, empty", n), n, []words.Held{}, -1)
		wantCommon(t, what("nodes, none set", n), n, make([]words.Held, n), -1)
	}
}

func TestCommonOfNodesThatMayNotBe(t *testing.T) { // P16.1: whatever the vector
	for _, n := range noNumbers() {
		for many := range 40 {
			wantCommon(t, what("entries", many), n, vector(make([]int64, many)...), -1)
		}
		wantCommon(t, "nil", n, nil, -1)
	}
}

func TestVectorsFarTooLong(t *testing.T) { // R1: what is beyond the nodes is let go, however much it is
	w := slices.Repeat(vector(5), 100000)
	for n := api.MinNodes; n <= api.MaxNodes; n++ {
		wantCommon(t, "long", n, w, 5)
	}
}

// anyAge: often one of a few, at times none, or one of an edge.
func anyAge(r *rand.Rand) int64 {
	switch r.Intn(12) {
	case 0:
		return unset
	case 1:
		return noAges()[r.Intn(len(noAges()))]
	case 2:
		return most - r.Int63n(3)
	case 3, 4:
		return r.Int63n(most + 1)
	}
	return 20 + r.Int63n(8)
}

func TestWhateverAVectorIs(t *testing.T) { // P16.1, R1: as the document words it; and what is handed in stays, with what is behind it
	r := rand.New(rand.NewSource(16))
	has, none := 0, 0
	for i := range 100000 {
		n := api.MinNodes + i%(api.MaxNodes-api.MinNodes+1)
		many := n
		if r.Intn(4) == 0 {
			many = n - 2 + r.Intn(5)
		}
		list := []int64{}
		for range many {
			age := anyAge(r)
			if r.Intn(n) > 1 && (age < 0 || age > most) {
				age = r.Int63n(most)
			}
			list = append(list, age)
		}
		w := append(vector(list...), vector(1, 2, 3)...)
		was := slices.Clone(w)
		want := common(n, w[:many])
		wantCommon(t, what("vector", i), n, w[:many], want)
		if !slices.Equal(w, was) {
			t.Fatalf("what was handed in was changed: %v, from %v", w, was)
		}
		if want == -1 {
			none++
		} else {
			has++
		}
	}
	if has < 50000 || none < 5000 {
		t.Errorf("%d have one, %d have none", has, none)
	}
}

func TestOneEntryIsWhatItLikes(t *testing.T) { // P16.3: the common age lies from the least to the greatest of the others; N - 1 the same: it is that one
	r := rand.New(rand.NewSource(163))
	for n := api.MinNodes; n <= api.MaxNodes; n++ {
		for i := range 300 {
			list := make([]int64, n)
			from, wide := r.Int63n(most-1000), 1+r.Int63n(1+int64(i))
			for k := range list {
				list[k] = from + r.Int63n(wide)
			}
			one, off := r.Intn(n), r.Intn(n)
			if i%3 == 0 && off != one {
				list[off] = unset
			}
			others := slices.DeleteFunc(slices.Concat(list[:one], list[one+1:]), func(age int64) bool { return age == unset })
			for _, age := range append(noAges(), unset, 0, 1, from-1, from, from+wide/2, from+wide, most-1, most) {
				list[one] = age
				got := ages.Common(n, vector(list...))
				set := len(others)
				if age >= 0 && age <= most {
					set++
				}
				if set < n-1 {
					if got != -1 {
						t.Fatalf("of %d nodes, of %d ages: %d", n, set, got)
					}
					continue
				}
				if got < slices.Min(others) || got > slices.Max(others) {
					t.Fatalf("of %d nodes, the others' %v, and %d: %d", n, others, age, got)
				}
			}
		}
		for one := range n {
			for _, same := range []int64{0, 1, 500, most - 1, most} {
				list := slices.Repeat([]int64{same}, n)
				for _, age := range append(noAges(), unset, 0, 1, 499, 500, 501, most-1, most) {
					list[one] = age
					wantCommon(t, what("nodes, one", n, one), n, vector(list...), same)
				}
			}
		}
	}
}
