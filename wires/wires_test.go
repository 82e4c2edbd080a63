package wires_test

import (
	"errors"
	"math"
	"math/rand"
	"reflect"
	"strconv"
	"testing"

	"sennit/api"
	"sennit/wires"
)

// made: wires of so many nodes.
func made[T any](t *testing.T, nodes int) *wires.Wires[T] {
	t.Helper()
	w, e := wires.New[T](nodes)
	if w == nil || e != api.OK {
		t.Fatalf("New(%d) = %v, %d", nodes, w, e)
	}
	return w
}

// alike: are two things the same one? A pointer is, if it points to the very same.
func alike(a, b any) bool {
	if reflect.ValueOf(a).Kind() == reflect.Pointer {
		return a == b
	}
	return reflect.DeepEqual(a, b)
}

// the: the one thing of a list, and true; nothing, and false.
func the[T any](list []T) (x T, is bool) {
	for _, y := range list {
		x = y
	}
	return x, len(list) == 1
}

// here fails if at a node another thing is than the one of a list (an empty list: if anything is).
func here[T any](t *testing.T, w *wires.Wires[T], d api.Dir, node, hop int, want ...T) {
	t.Helper()
	x, is := the(want)
	if got, ok := w.Here(d, node, hop); ok != is || !alike(got, x) {
		t.Errorf("Here(%d, %d, %d) = %v, %v, want %v", d, node, hop, got, ok, want)
	}
}

// given fails if a link was given another thing than the one of a list (an empty list: if anything).
func given[T any](t *testing.T, w *wires.Wires[T], link int, want ...T) {
	t.Helper()
	x, is := the(want)
	if got, ok := w.Given(link); ok != is || !alike(got, x) {
		t.Errorf("Given(%d) = %v, %v, want %v", link, got, ok, want)
	}
}

// give fails if it is answered otherwise.
func give[T any](t *testing.T, w *wires.Wires[T], link int, x T, want api.Errno) {
	t.Helper()
	if got := w.Give(link, x); got != want {
		t.Errorf("Give(%d, %v) = %d, want %d", link, x, got, want)
	}
}

// take fails if it is answered otherwise.
func take[T any](t *testing.T, w *wires.Wires[T], link int, want api.Errno) {
	t.Helper()
	if got := w.Take(link); got != want {
		t.Errorf("Take(%d) = %d, want %d", link, got, want)
	}
}

// end fails if it is answered otherwise.
func end[T any](t *testing.T, w *wires.Wires[T], want api.Errno) {
	t.Helper()
	if got := w.End(); got != want {
		t.Errorf("End() = %d, want %d", got, want)
	}
}

// ticks fails if another number of them is told.
func ticks[T any](t *testing.T, w *wires.Wires[T], want int64) {
	t.Helper()
	if got := w.Ticks(); got != want {
		t.Errorf("Ticks() = %d, want %d", got, want)
	}
}

// linkTo: the number of the link that leads to a node, in a direction, by a hop, as chapter 3 words it.
func linkTo(nodes int, d api.Dir, node, hop int) int {
	if d == api.DrCw {
		return 4*((node+nodes-hop)%nodes) + hop - 1
	}
	return 4*((node+hop)%nodes) + 2 + hop - 1
}

// model of wires, as the document words them: all that links ever sent, by ticks.
type model[T any] struct {
	nodes int
	sent  []map[int][]T // of each tick that has ended: of each link that was given something, that
	now   map[int][]T   // of this tick
}

func newModel[T any](nodes int) *model[T] {
	return &model[T]{nodes: nodes, now: map[int][]T{}}
}

func (m *model[T]) has(link int) bool { return link >= 0 && link < 4*m.nodes }

func (m *model[T]) give(link int, x T) api.Errno {
	if !m.has(link) {
		return api.ErrArg
	}
	m.now[link] = []T{x}
	return api.OK
}

func (m *model[T]) take(link int) api.Errno {
	if !m.has(link) {
		return api.ErrArg
	}
	m.now[link] = nil
	return api.OK
}

func (m *model[T]) end() {
	m.sent, m.now = append(m.sent, m.now), map[int][]T{}
}

// here: what a link sent as many ticks ago as its hop is.
func (m *model[T]) here(d api.Dir, node, hop int) []T {
	if tick := len(m.sent) - hop; tick >= 0 {
		return m.sent[tick][linkTo(m.nodes, d, node, hop)]
	}
	return nil
}

// check fails if wires are anywhere others than their model: of each node, each link, and what lies around them.
func (m *model[T]) check(t *testing.T, w *wires.Wires[T]) {
	t.Helper()
	for node := range m.nodes {
		for _, d := range []api.Dir{api.DrCw, api.DrCcw} {
			here(t, w, d, node, 0)
			here(t, w, d, node, 1, m.here(d, node, 1)...)
			here(t, w, d, node, 2, m.here(d, node, 2)...)
			here(t, w, d, node, 3)
		}
		here(t, w, 2, node, 1)
		here(t, w, 2, node, 2)
	}
	for link := range 4 * m.nodes {
		given(t, w, link, m.now[link]...)
	}
	given(t, w, -1)
	given(t, w, 4*m.nodes)
	ticks(t, w, int64(len(m.sent)))
	if t.Failed() {
		t.Fatalf("of %d nodes, behind %d ticks", m.nodes, len(m.sent))
	}
}

// both: wires and their model, of which the same is asked.
type both[T any] struct {
	*testing.T
	w *wires.Wires[T]
	m *model[T]
}

func twins[T any](t *testing.T, nodes int) both[T] {
	t.Helper()
	return both[T]{t, made[T](t, nodes), newModel[T](nodes)}
}

func (b both[T]) give(link int, x T) { b.Helper(); give(b.T, b.w, link, x, b.m.give(link, x)) }
func (b both[T]) take(link int)      { b.Helper(); take(b.T, b.w, link, b.m.take(link)) }
func (b both[T]) end()               { b.Helper(); b.m.end(); end(b.T, b.w, api.OK) }
func (b both[T]) check()             { b.Helper(); b.m.check(b.T, b.w) }

func TestAsTheDocumentHasIt(t *testing.T) { // P8.2, P8.3, P8.4: its examples
	w := made[int](t, 4)
	give(t, w, 0, 7, api.OK)
	end(t, w, api.OK)
	here(t, w, api.DrCw, 1, 1, 7)
	give(t, w, 1, 8, api.OK)
	end(t, w, api.OK)
	end(t, w, api.OK)
	here(t, w, api.DrCw, 2, 2, 8)
}

// noRing fails if there are wires of so many nodes.
func noRing[T any](t *testing.T, nodes int) {
	t.Helper()
	if w, e := wires.New[T](nodes); w != nil || e != api.ErrArg {
		t.Errorf("New(%d) = %v, %d, want ErrArg", nodes, w, e)
	}
}

func TestRingsThatAreNone(t *testing.T) { // P8.1: next to those that are, below 0, the least and the greatest number, those that wrap round to ones that are
	for _, n := range []int{0, 1, 2, 3, 17, 18, 19, 20, 32, 64, 100, 1 << 20, -1, -2, -3, -4, -5, -15, -16, -17,
		math.MinInt, math.MinInt + 4, math.MinInt + 16, math.MaxInt, math.MaxInt - 1, math.MinInt32, math.MaxInt32,
		1<<8 + 4, 1<<8 + 16, 1<<16 + 5, 1<<32 + 4, 1<<32 + 16, 1<<62 + 4, 1 << 62} {
		noRing[int](t, n)
		noRing[string](t, n)
		noRing[[]int](t, n)
		noRing[struct{}](t, n)
		noRing[*wires.Wires[int]](t, n)
	}
}

// fresh fails if new wires have anything.
func fresh[T any](t *testing.T, nodes int) {
	t.Helper()
	twins[T](t, nodes).check()
}

func TestNewWiresHaveNothing(t *testing.T) { // P8.1, P8.2, P8.3, P8.4: of each ring that there is
	for n := api.MinNodes; n <= api.MaxNodes; n++ {
		fresh[int](t, n)
		fresh[string](t, n)
		fresh[[]int](t, n)
		fresh[any](t, n)
		fresh[struct{}](t, n)
		fresh[*wires.Wires[int]](t, n)
	}
}

// beyond: numbers that there are none of among so many: around its ends, the least and the greatest number, those that wrap round.
func beyond(many int) []int {
	return []int{-1, -2, -3, -4, -many, -many - 1, many, many + 1, many + 2, many + 3, 2 * many, 1 << 8, 1 << 16, 1 << 32, 1<<32 + 1, 1 << 62,
		math.MinInt, math.MinInt + 1, math.MinInt32, math.MaxInt, math.MaxInt - 1, math.MaxInt32}
}

// full: wires on which something is everywhere, at each link, in each tick.
func full(t *testing.T, nodes int) both[int] {
	b := twins[int](t, nodes)
	for i := range 3 {
		for link := range 4 * nodes {
			b.give(link, 100*i+link)
		}
		b.end()
	}
	for link := range 4 * nodes {
		b.give(link, -link)
	}
	b.check()
	return b
}

func TestWhereNothingIs(t *testing.T) { // P8.2: a direction, node or hop that there is none of, though something is everywhere else
	for n := api.MinNodes; n <= api.MaxNodes; n++ {
		b := full(t, n)
		for _, d := range []api.Dir{2, 3, 4, 5, 127, 128, 129, 254, 255} {
			for node := -1; node <= n; node++ {
				for hop := -1; hop <= 3; hop++ {
					here(t, b.w, d, node, hop)
				}
			}
		}
		for _, d := range []api.Dir{api.DrCw, api.DrCcw} {
			for _, node := range beyond(n) {
				for hop := -3; hop <= 4; hop++ {
					here(t, b.w, d, node, hop)
				}
			}
			for node := range n {
				for _, hop := range append(beyond(3), 0, 1<<8+1, 1<<8+2, 1<<32+2) {
					here(t, b.w, d, node, hop)
				}
			}
		}
		b.check()
	}
}

func TestLinksThatAreNone(t *testing.T) { // P8.3: they are given nothing, nothing is taken of them, and all else stays as it is
	for n := api.MinNodes; n <= api.MaxNodes; n++ {
		b := full(t, n)
		for _, link := range beyond(4 * n) {
			give(t, b.w, link, 9, api.ErrArg)
			given(t, b.w, link)
			take(t, b.w, link, api.ErrArg)
			given(t, b.w, link)
		}
		b.check()
		for range 3 {
			b.end()
			b.check()
		}
	}
}

func TestTheFirstLinkAndTheLastOne(t *testing.T) { // P8.3, P8.5: and the ones next to them
	for n := api.MinNodes; n <= api.MaxNodes; n++ {
		last := 4*n - 1
		b := twins[int](t, n)
		for i, link := range []int{0, last, -1, last + 1, 0, -1, last, last + 1} {
			b.give(link, i+1)
			b.check()
			b.end()
			b.check()
		}
		b.end()
		b.check()
		w := made[string](t, n)
		give(t, w, 0, "a", api.OK)
		give(t, w, last, "b", api.OK)
		end(t, w, api.OK)
		here(t, w, api.DrCw, 1, 1, "a")
		end(t, w, api.OK)
		here(t, w, api.DrCcw, n-3, 2, "b")
	}
}

// oneLink: what a link alone is given is here at its other end, when it is to be, for that tick alone, and nothing else anywhere.
func oneLink[T any](t *testing.T, nodes, link int, x T) {
	t.Helper()
	b := twins[T](t, nodes)
	b.give(link, x)
	b.check()
	for range 5 {
		b.end()
		b.check()
	}
}

func TestEachLinkOfEachRing(t *testing.T) { // P8.5: alone
	for n := api.MinNodes; n <= api.MaxNodes; n++ {
		for link := range 4 * n {
			oneLink(t, n, link, link+1)
			oneLink(t, n, link, strconv.Itoa(link))
			oneLink(t, n, link, []int{link, -link})
		}
	}
}

func TestWhenAndWhere(t *testing.T) { // P8.5: by hand, of both directions and both hops
	for _, c := range []struct {
		link int
		d    api.Dir
		node int
		hop  int
	}{
		{0, api.DrCw, 1, 1}, {1, api.DrCw, 2, 2}, {2, api.DrCcw, 5, 1}, {3, api.DrCcw, 4, 2},
		{12, api.DrCw, 4, 1}, {13, api.DrCw, 5, 2}, {14, api.DrCcw, 2, 1}, {15, api.DrCcw, 1, 2},
		{20, api.DrCw, 0, 1}, {21, api.DrCw, 1, 2}, {22, api.DrCcw, 4, 1}, {23, api.DrCcw, 3, 2},
	} {
		w := made[string](t, 6)
		give(t, w, c.link, "a", api.OK)
		here(t, w, c.d, c.node, c.hop)
		for tick := 1; tick <= 4; tick++ {
			end(t, w, api.OK)
			if tick == c.hop {
				here(t, w, c.d, c.node, c.hop, "a")
			} else {
				here(t, w, c.d, c.node, c.hop)
			}
		}
	}
}

func TestBothDirectionsOfTheLeastRing(t *testing.T) { // P8.5: two skips lead from one node to the same other one
	w := made[string](t, 4)
	give(t, w, 1, "cw", api.OK)
	give(t, w, 3, "ccw", api.OK)
	end(t, w, api.OK)
	end(t, w, api.OK)
	here(t, w, api.DrCw, 2, 2, "cw")
	here(t, w, api.DrCcw, 2, 2, "ccw")
	give(t, w, 3, "ccw", api.OK)
	end(t, w, api.OK)
	end(t, w, api.OK)
	here(t, w, api.DrCw, 2, 2)
	here(t, w, api.DrCcw, 2, 2, "ccw")
}

func TestTheLastThingCounts(t *testing.T) { // P8.3: of many in one tick, on each link
	for link := range 20 {
		b := twins[string](t, 5)
		for _, x := range []string{"a", "b", "b", "", "c"} {
			b.give(link, x)
			b.check()
		}
		for range 3 {
			b.end()
			b.check()
		}
		b.give(link, "d")
		b.give(link, "")
		b.end()
		b.check()
		b.end()
		b.check()
	}
}

func TestWhatIsTaken(t *testing.T) { // P8.3: is not sent; nothing may be taken, too, and again; what is given behind that counts
	for link := range 20 {
		for _, todo := range []string{"t", "tt", "gt", "gtt", "ggt", "tg", "gtg", "gtgt", "tgtgg"} {
			b := twins[int](t, 5)
			b.give((link+1)%20, 77)
			for i, what := range todo {
				if what == 'g' {
					b.give(link, i)
				} else {
					b.take(link)
				}
				b.check()
			}
			for range 3 {
				b.end()
				b.check()
				b.take(link)
				b.check()
			}
		}
	}
}

func TestWhatIsOnItsWayIsNotTaken(t *testing.T) { // P8.3: only what was given in this tick is
	w := made[int](t, 4)
	give(t, w, 0, 5, api.OK)
	give(t, w, 1, 6, api.OK)
	end(t, w, api.OK)
	take(t, w, 0, api.OK)
	take(t, w, 1, api.OK)
	here(t, w, api.DrCw, 1, 1, 5)
	end(t, w, api.OK)
	take(t, w, 1, api.OK)
	here(t, w, api.DrCw, 2, 2, 6)
	here(t, w, api.DrCw, 1, 1)
}

func TestGivenEndsWithTheTick(t *testing.T) { // P8.3, P8.4
	w := made[int](t, 4)
	for i := range 9 {
		for link := range 16 {
			given(t, w, link)
			give(t, w, link, i, api.OK)
			given(t, w, link, i)
			given(t, w, link, i)
		}
		end(t, w, api.OK)
		for link := range 16 {
			given(t, w, link)
		}
	}
}

func TestATickGoesOnTillItsEnd(t *testing.T) { // P8.2, P8.4: whatever is asked, given and taken, and however often
	b := twins[int](t, 4)
	for i := range 40 {
		for range 5 {
			b.check()
			b.give(i%18-1, i)
			b.take((i+1)%18 - 1)
		}
		b.check()
		b.end()
	}
}

func TestTicksInWhichNothingIsGiven(t *testing.T) { // P8.4: end, and are counted, as others do
	w := made[int](t, 7)
	for i := range int64(1000) {
		ticks(t, w, i)
		end(t, w, api.OK)
	}
	ticks(t, w, 1000)
	give(t, w, 0, 1, api.OK)
	give(t, w, -1, 1, api.ErrArg)
	take(t, w, 0, api.OK)
	w.Here(api.DrCw, 1, 1)
	w.Given(0)
	ticks(t, w, 1000)
	end(t, w, api.OK)
	ticks(t, w, 1001)
}

// takesNothing fails if wires have anything, or take something that they are given.
func takesNothing[T any](t *testing.T, w *wires.Wires[T], x T) {
	t.Helper()
	for range 3 {
		for _, link := range []int{0, 1, 2, 3, 15, 16, 63, 64, -1, math.MinInt, math.MaxInt} {
			give(t, w, link, x, api.ErrNil)
			given(t, w, link)
			take(t, w, link, api.ErrNil)
		}
		end(t, w, api.ErrNil)
		ticks(t, w, 0)
		for _, d := range []api.Dir{api.DrCw, api.DrCcw, 2, 255} {
			for _, node := range []int{0, 1, 2, 3, 15, 16, -1, math.MinInt, math.MaxInt} {
				for _, hop := range []int{1, 2, 0, 3, -1, math.MinInt, math.MaxInt} {
					here(t, w, d, node, hop)
				}
			}
		}
	}
}

func TestOfNoWires(t *testing.T) { // P8.2, P8.3, P8.4, R2, R3: ones that are not there, or that no call made, whatever the link is
	var unmade wires.Wires[int]
	for _, w := range []*wires.Wires[int]{nil, {}, &unmade, new(wires.Wires[int])} {
		takesNothing(t, w, 7)
	}
	takesNothing(t, nil, "a")
	takesNothing(t, &wires.Wires[string]{}, "a")
	takesNothing(t, nil, []int{1})
	takesNothing(t, &wires.Wires[[]int]{}, nil)
	takesNothing(t, &wires.Wires[any]{}, nil)
	takesNothing(t, &wires.Wires[struct{}]{}, struct{}{})
	takesNothing(t, &wires.Wires[*wires.Wires[int]]{}, made[int](t, 4))
	none, e := wires.New[int](3)
	takesNothing(t, none, 7)
	if e != api.ErrArg {
		t.Error(e)
	}
}

// nought: what is zero or empty is given, and is here all the same; what is not given is not.
func nought[T any](t *testing.T, x T) {
	t.Helper()
	b := twins[T](t, 4)
	for i := range 12 {
		for link := range 16 {
			if (i+link)%3 == 0 || i%5 == 1 {
				b.give(link, x)
			}
			if i%4 == 1 && link%3 == 1 {
				b.take(link)
			}
		}
		b.check()
		b.end()
		b.check()
	}
}

func TestWhatIsZeroOrEmptyIsAThing(t *testing.T) { // P8.2, P8.3, P8.5
	nought(t, 0)
	nought(t, 0.0)
	nought(t, "")
	nought(t, false)
	nought(t, api.SyNone)
	nought(t, [3]int{})
	nought(t, struct{}{})
	nought(t, api.Cell{})
	nought[[]int](t, nil)
	nought(t, []int{})
	nought[map[int]int](t, nil)
	nought(t, map[int]int{})
	nought[any](t, nil)
	nought[error](t, nil)
	nought[error](t, api.OK)
	nought[*int](t, nil)
	nought[*wires.Wires[int]](t, nil)
	w := made[int](t, 4)
	give(t, w, 2, 0, api.OK)
	if x, is := w.Given(2); x != 0 || !is {
		t.Error(x, is)
	}
	end(t, w, api.OK)
	if x, is := w.Here(api.DrCcw, 3, 1); x != 0 || !is {
		t.Error(x, is)
	}
}

// carry: many ticks of any kind, of things that a function tells by a number.
func carry[T any](t *testing.T, nodes, many int, thing func(i int) T) {
	t.Helper()
	source := rand.New(rand.NewSource(int64(nodes)))
	b := twins[T](t, nodes)
	for i := range many {
		for range source.Intn(4 * nodes) {
			link := source.Intn(4*nodes+4) - 2
			if source.Intn(4) == 0 {
				b.take(link)
			} else {
				b.give(link, thing(i+link+2))
			}
		}
		if source.Intn(4) == 0 {
			b.check()
		}
		b.end()
		b.check()
	}
}

func TestManyTicksOfEachRing(t *testing.T) { // P8.2 to P8.5: of numbers, of texts and of lists alike
	for n := api.MinNodes; n <= api.MaxNodes; n++ {
		carry(t, n, 150, func(i int) int { return i })
		carry(t, n, 150, strconv.Itoa)
		carry(t, n, 150, func(i int) []int { return make([]int, i%4) })
	}
}

func TestWiresOfWhateverTheyCarry(t *testing.T) { // P8.2 to P8.5: all alike
	carried := []*wires.Wires[int]{nil, {}, made[int](t, 4), made[int](t, 16)}
	for _, n := range []int{4, 5, 16} {
		carry(t, n, 60, func(i int) bool { return i%2 == 0 })
		carry(t, n, 60, func(i int) uint8 { return uint8(i) })
		carry(t, n, 60, func(i int) float64 { return float64(i) / 2 })
		carry(t, n, 60, func(i int) []string { return []string{"a", strconv.Itoa(i), ""}[:i%3] })
		carry(t, n, 60, func(i int) [2]int { return [2]int{i, -i} })
		carry(t, n, 60, func(i int) map[int]int { return map[int]int{i: 1} })
		carry(t, n, 60, func(i int) struct{} { return struct{}{} })
		carry(t, n, 60, func(i int) api.Sym { return api.Sym(i % 3) })
		carry(t, n, 60, func(i int) api.Cell { return api.Cell{Age: int64(i), Report: api.Said{Is: true}} })
		carry(t, n, 60, func(i int) any { return []any{nil, i, "a", []int{i}}[i%4] })
		carry(t, n, 60, func(i int) error { return []error{nil, api.ErrArg, errors.New("a")}[i%3] })
		carry(t, n, 60, func(i int) *wires.Wires[int] { return carried[i%4] })
	}
}

func TestEachThingIsHereOnce(t *testing.T) { // P8.5: all that was given last, and not taken, and nothing else, over many ticks
	const nodes, many = 9, 3000
	type when struct {
		link int
		tick int
	}
	w, source := made[when](t, nodes), rand.New(rand.NewSource(8))
	left, came := map[when]bool{}, 0
	for tick := range many {
		for node := range nodes {
			for way := range 4 {
				d, hop := api.Dir(way/2), 1+way%2
				x, is := w.Here(d, node, hop)
				if !is {
					continue
				}
				if want := (when{linkTo(nodes, d, node, hop), tick - hop}); x != want || !left[x] {
					t.Fatalf("%v is here, want %v, or it was here before", x, want)
				}
				delete(left, x)
				came++
			}
		}
		for link := range 4 * nodes {
			if tick < many-2 && source.Intn(3) == 0 {
				x := when{link, tick}
				left[x] = true
				give(t, w, link, x, api.OK)
			}
		}
		end(t, w, api.OK)
	}
	if len(left) != 0 || came == 0 {
		t.Errorf("%d never were here, %d were", len(left), came)
	}
}

func TestWhatOneLinkIsGivenChangesNothingOfOthers(t *testing.T) { // P8.5: with something on all of them, each in its turn
	for _, n := range []int{4, 5, 8, 16} {
		for link := range 4 * n {
			b := full(t, n)
			b.give(link, 9999)
			b.check()
			b.end()
			b.check()
			b.take(link)
			b.give(link, 8888)
			b.take(link)
			b.check()
			b.end()
			b.check()
			b.end()
			b.check()
		}
	}
}

func TestWiresAreTheirOwn(t *testing.T) { // R5: turn by turn, each as they would be alone
	source := rand.New(rand.NewSource(88))
	var all []both[int]
	for i := range 12 {
		all = append(all, twins[int](t, 4+i%5))
	}
	for i := range 6000 {
		b := all[source.Intn(len(all))]
		link := source.Intn(4*b.m.nodes+2) - 1
		switch source.Intn(4) {
		case 0:
			b.end()
		case 1:
			b.take(link)
		default:
			b.give(link, i)
		}
		b.check()
		all[source.Intn(len(all))].check()
	}
}

func TestWiresThatAreNoneLeaveOthersAlone(t *testing.T) { // R3, R5
	b := full(t, 4)
	takesNothing(t, nil, 5)
	takesNothing(t, &wires.Wires[int]{}, 5)
	noRing[int](t, 3)
	b.check()
	b.end()
	b.check()
}

func TestWiresOnWires(t *testing.T) { // R5: what goes on on the one changes nothing of the other
	inner := twins[int](t, 5)
	outer := twins[*wires.Wires[int]](t, 4)
	for i := range 30 {
		outer.give(i%16, inner.w)
		inner.check()
		inner.give(i%20, i)
		outer.check()
		outer.end()
		inner.check()
		inner.end()
		outer.check()
	}
	self := twins[any](t, 4)
	for i := range 5 {
		self.give(i, any(self.w)) // even wires that are on themselves
		self.end()
		if x, is := self.w.Here(api.DrCw, 1, 1); is && x != any(self.w) {
			t.Error("another one")
		}
	}
}

func TestListsAreCarriedAsTheyAre(t *testing.T) { // R1: no call changes them, nor what is in the room behind them
	all, like := []int{5, 6, 7, 8}, []int{5, 6, 7, 8}
	b := twins[[]int](t, 4)
	for i := range 40 {
		b.give(i%16, all[i%4:min(i%4+i%3, 4)])
		b.give((i+5)%16, nil)
		b.take((i + 7) % 16)
		b.check()
		b.end()
		b.check()
		if !reflect.DeepEqual(all, like) {
			t.Fatalf("%v, and was %v", all, like)
		}
	}
}
