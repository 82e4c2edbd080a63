package lines_test

import (
	"errors"
	"math"
	"math/rand"
	"reflect"
	"strconv"
	"testing"

	"sennit/api"
	"sennit/lines"
)

// hops that there are.
func hops() []int { return []int{1, 2} }

// made: a line of that hop.
func made[T any](t *testing.T, hop int) *lines.Line[T] {
	t.Helper()
	l, e := lines.New[T](hop)
	if l == nil || e != api.OK {
		t.Fatalf("New(%d) = %v, %d", hop, l, e)
	}
	return l
}

// alike: are two things the same one? A pointer is, if it points to the very same.
func alike(a, b any) bool {
	if reflect.ValueOf(a).Kind() == reflect.Pointer {
		return a == b
	}
	return reflect.DeepEqual(a, b)
}

// here fails if what is here is another thing than the one of a list (an empty list: if anything is),
// when asked, and when asked again and again.
func here[T any](t *testing.T, l *lines.Line[T], want ...T) {
	t.Helper()
	var thing T
	for _, x := range want {
		thing = x
	}
	for range 4 {
		if got, is := l.Here(); is != (len(want) == 1) || !alike(got, thing) {
			t.Errorf("Here() = %v, %v, want %v", got, is, want)
		}
	}
}

// way fails if what is on its way is told otherwise, when asked, and when asked again, or has room behind.
func way[T any](t *testing.T, l *lines.Line[T], want ...T) {
	t.Helper()
	for range 3 {
		got := l.Way()
		if len(got) != len(want) || cap(got) != len(want) {
			t.Errorf("Way() = %v, of room %d, want %v", got, cap(got), want)
			return
		}
		for i := range want {
			if !alike(got[i], want[i]) {
				t.Errorf("Way() = %v, want %v", got, want)
			}
		}
	}
}

// ticks fails if another number of them is told.
func ticks[T any](t *testing.T, l *lines.Line[T], want int64) {
	t.Helper()
	for range 2 {
		if got := l.Ticks(); got != want {
			t.Errorf("Ticks() = %d, want %d", got, want)
		}
	}
}

// send fails if what is to be sent is answered otherwise.
func send[T any](t *testing.T, l *lines.Line[T], want api.Errno, x ...T) {
	t.Helper()
	if got := l.Send(x...); got != want {
		t.Errorf("Send(%v) = %d, want %d", x, got, want)
	}
}

// model of a line, as the document words it: all that was ever sent, by ticks.
type model[T any] struct {
	hop  int
	sent [][]T // of each tick that has ended: one thing or none
}

// of: what was sent in a tick; ahead of the first one nothing.
func (m *model[T]) of(tick int) []T {
	if tick < 0 {
		return nil
	}
	return m.sent[tick]
}

// send: what is to be answered.
func (m *model[T]) send(x ...T) api.Errno {
	if len(x) > 1 {
		return api.ErrArg
	}
	m.sent = append(m.sent, append([]T{}, x...))
	return api.OK
}

// check fails if a line is another one than its model.
func (m *model[T]) check(t *testing.T, l *lines.Line[T]) {
	t.Helper()
	now := len(m.sent)
	here(t, l, m.of(now-m.hop)...)
	var later []T
	for tick := now - m.hop + 1; tick < now; tick++ {
		later = append(later, m.of(tick)...)
	}
	way(t, l, later...)
	ticks(t, l, int64(now))
}

// step: a line and its model are to send the same.
func step[T any](t *testing.T, l *lines.Line[T], m *model[T], x ...T) {
	t.Helper()
	send(t, l, m.send(x...), x...)
	m.check(t, l)
	if t.Failed() {
		t.Fatalf("by hop %d, behind %d ticks", m.hop, len(m.sent))
	}
}

func TestAsTheDocumentHasIt(t *testing.T) { // P7.2, P7.3: its examples
	l := made[int](t, 2)
	send(t, l, api.OK, 5)
	here(t, l)
	send(t, l, api.OK)
	here(t, l, 5)
	send(t, l, api.OK)
	here(t, l)
}

// noHop fails if there is a line of that hop.
func noHop[T any](t *testing.T, hop int) {
	t.Helper()
	if l, e := lines.New[T](hop); l != nil || e != api.ErrArg {
		t.Errorf("New(%d) = %v, %d, want ErrArg", hop, l, e)
	}
}

func TestHopsThatAreNone(t *testing.T) { // P7.1: next to those that are, below 0, the least and the greatest one, those that wrap round to 1 and 2
	for _, hop := range []int{0, 3, 4, 5, 16, 99, -1, -2, -3, math.MinInt, math.MinInt + 1, math.MinInt + 2, math.MaxInt, math.MaxInt - 1,
		1<<8 + 1, 1<<8 + 2, 1<<16 + 1, 1<<16 + 2, 1<<32 + 1, 1<<32 + 2, 1 << 62, math.MinInt32, math.MaxInt32} {
		noHop[int](t, hop)
		noHop[string](t, hop)
		noHop[[]byte](t, hop)
		noHop[struct{}](t, hop)
		noHop[*lines.Line[int]](t, hop)
	}
}

// fresh fails if a new line has anything.
func fresh[T any](t *testing.T, hop int) {
	t.Helper()
	l := made[T](t, hop)
	here(t, l)
	way(t, l)
	ticks(t, l, 0)
}

func TestANewLineHasNothing(t *testing.T) { // P7.1, P7.2, P7.3
	for _, hop := range hops() {
		fresh[int](t, hop)
		fresh[string](t, hop)
		fresh[[]byte](t, hop)
		fresh[any](t, hop)
		fresh[struct{}](t, hop)
		fresh[*lines.Line[int]](t, hop)
		fresh[lines.Line[int]](t, hop)
	}
}

func TestByANeighbourLink(t *testing.T) { // P7.2, P7.3: what is sent is here one tick later, and never on its way
	l := made[string](t, 1)
	for i, c := range []struct{ send, here []string }{
		{[]string{"a"}, []string{"a"}},
		{nil, nil},
		{nil, nil},
		{[]string{"b"}, []string{"b"}},
		{[]string{"c"}, []string{"c"}},
		{[]string{"c"}, []string{"c"}},
		{[]string{""}, []string{""}},
		{[]string{}, nil},
	} {
		send(t, l, api.OK, c.send...)
		here(t, l, c.here...)
		way(t, l)
		ticks(t, l, int64(i+1))
	}
}

func TestByASkip(t *testing.T) { // P7.2, P7.3: what is sent is on its way in the next tick, and here in the one behind it
	l := made[string](t, 2)
	for i, c := range []struct{ send, here, way []string }{
		{[]string{"a"}, nil, []string{"a"}},
		{nil, []string{"a"}, nil},
		{nil, nil, nil},
		{[]string{"b"}, nil, []string{"b"}},
		{[]string{"c"}, []string{"b"}, []string{"c"}},
		{[]string{"c"}, []string{"c"}, []string{"c"}},
		{[]string{}, []string{"c"}, nil},
		{[]string{""}, nil, []string{""}},
		{nil, []string{""}, nil},
		{nil, nil, nil},
		{nil, nil, nil},
	} {
		send(t, l, api.OK, c.send...)
		here(t, l, c.here...)
		way(t, l, c.way...)
		ticks(t, l, int64(i+1))
	}
}

func TestMoreThanOneThing(t *testing.T) { // P7.3: whatever is on the line, the tick goes on as it was
	many := make([]int, 1000)
	for _, hop := range hops() {
		for _, ahead := range [][][]int{{}, {{1}}, {{}}, {{1}, {}}, {{1}, {2}}, {{}, {2}}, {{1}, {2}, {}, {}}} {
			l, m := made[int](t, hop), &model[int]{hop: hop}
			for _, x := range ahead {
				step(t, l, m, x...)
			}
			for _, list := range [][]int{{8, 9}, {0, 0}, {1, 1}, {7, 8, 9}, many, {8, 9}} {
				send(t, l, api.ErrArg, list...)
				m.check(t, l)
			}
			step(t, l, m, 3)
			step(t, l, m, 8, 9)
			step(t, l, m)
			step(t, l, m)
			step(t, l, m)
		}
	}
}

func TestATickGoesOnTillSomethingIsSent(t *testing.T) { // P7.2: what is asked for ends none
	for _, hop := range hops() {
		l, m := made[int](t, hop), &model[int]{hop: hop}
		for i := range 50 {
			for range 20 {
				m.check(t, l)
			}
			step(t, l, m, []int{i}[:i%3%2]...)
		}
	}
}

// takesNothing fails if a line has anything, or takes something that is sent.
func takesNothing[T any](t *testing.T, l *lines.Line[T], x T) {
	t.Helper()
	for _, list := range [][]T{nil, {}, {x}, {x, x}, {x, x, x}, {x}, nil} {
		send(t, l, api.ErrNil, list...)
		here(t, l)
		way(t, l)
		ticks(t, l, 0)
		if l.Way() != nil {
			t.Errorf("Way() = %v, want none", l.Way())
		}
	}
}

func TestOfNoLine(t *testing.T) { // P7.2, P7.3, R2, R3: one that is not there, or that no call made, however much is sent
	var unmade lines.Line[int]
	for _, l := range []*lines.Line[int]{nil, {}, &unmade, new(lines.Line[int])} {
		takesNothing(t, l, 7)
	}
	takesNothing(t, nil, "a")
	takesNothing(t, &lines.Line[string]{}, "a")
	takesNothing(t, nil, []byte{1})
	takesNothing(t, &lines.Line[[]byte]{}, nil)
	takesNothing(t, &lines.Line[any]{}, nil)
	takesNothing(t, &lines.Line[struct{}]{}, struct{}{})
	takesNothing(t, &lines.Line[*lines.Line[int]]{}, made[int](t, 1))
	none, e := lines.New[int](3)
	takesNothing(t, none, 7)
	if e != api.ErrArg {
		t.Error(e)
	}
}

// nought: what is zero or empty is sent, and is here all the same; what is not sent is not.
func nought[T any](t *testing.T, x T) {
	t.Helper()
	for _, hop := range hops() {
		l, m := made[T](t, hop), &model[T]{hop: hop}
		for _, is := range []int{1, 0, 0, 1, 1, 0, 1, 0, 0, 0} {
			step(t, l, m, []T{x}[:is]...)
		}
	}
}

func TestWhatIsZeroOrEmptyIsAThing(t *testing.T) { // P7.2, P7.3
	nought(t, 0)
	nought(t, 0.0)
	nought(t, "")
	nought(t, false)
	nought(t, api.SyNone)
	nought(t, [3]int{})
	nought(t, struct{}{})
	nought(t, api.Cell{})
	nought[[]int](t, nil)
	nought(t, []int{})
	nought[map[int]int](t, nil)
	nought(t, map[int]int{})
	nought[any](t, nil)
	nought[error](t, nil)
	nought[error](t, api.OK)
	nought[*int](t, nil)
	nought(t, lines.Line[int]{})
	nought[*lines.Line[int]](t, nil)
	l := made[[]int](t, 1)
	if l.Send(nil) != api.OK { // one list that is nil, and not no list
		t.Error("no list")
	}
	here(t, l, nil)
	if l.Send(nil...) != api.OK {
		t.Error("nothing")
	}
	here(t, l)
}

func TestAllThatMayBeSentInSomeTicks(t *testing.T) { // P7.2, P7.3, P7.4: nothing, one thing or two, in each of them
	const long = 8
	for _, hop := range hops() {
		for which := range 6561 {
			l, m := made[int](t, hop), &model[int]{hop: hop}
			m.check(t, l)
			for i := range long {
				step(t, l, m, []int{i, -i}[:which%3]...)
				which /= 3
			}
		}
	}
}

func TestNothingButWhatWasSent(t *testing.T) { // P7.4: each thing once, in order, as many ticks later as the hop is
	source := rand.New(rand.NewSource(7))
	for _, hop := range hops() {
		l, when, last := made[int64](t, hop), map[int64]int64{}, int64(0)
		came, left := int64(0), 0
		for tick := range int64(20000) {
			if x, is := l.Here(); is {
				if x != came+1 || when[x] != tick-int64(hop) {
					t.Fatalf("by hop %d: %d, sent in tick %d, is here in tick %d, behind %d", hop, x, when[x], tick, came)
				}
				came, left = x, left-1
			}
			if source.Intn(3) == 0 {
				send(t, l, api.ErrArg, last, last+1)
			}
			if tick < 19990 && source.Intn(1+int(tick/4000)) == 0 {
				last, left = last+1, left+1
				when[last] = tick
				send(t, l, api.OK, last)
			} else {
				send(t, l, api.OK)
			}
		}
		if left != 0 || came != last || came == 0 {
			t.Errorf("by hop %d: %d of %d never were here", hop, left, last)
		}
	}
}

// carry: many ticks of any kind, of things that a function tells by a number.
func carry[T any](t *testing.T, thing func(i int) T) {
	t.Helper()
	source := rand.New(rand.NewSource(77))
	for _, hop := range hops() {
		l, m := made[T](t, hop), &model[T]{hop: hop}
		for i := range 500 {
			list := []T{thing(i), thing(i + 1), thing(i + 2)}
			step(t, l, m, list[:source.Intn(4)]...)
			if source.Intn(2) == 0 {
				step(t, l, m, list[:1]...)
			}
		}
	}
}

func TestLinesOfWhateverTheyCarry(t *testing.T) { // P7.2, P7.3, P7.4: all alike
	carried := []*lines.Line[int]{nil, {}, made[int](t, 1), made[int](t, 2)}
	carry(t, func(i int) int { return i })
	carry(t, func(i int) uint8 { return uint8(i) })
	carry(t, func(i int) bool { return i%2 == 0 })
	carry(t, func(i int) float64 { return float64(i) / 2 })
	carry(t, strconv.Itoa)
	carry(t, func(i int) []int { return make([]int, i%4) })
	carry(t, func(i int) []string { return []string{"a", strconv.Itoa(i), ""}[:i%3] })
	carry(t, func(i int) [2]int { return [2]int{i, -i} })
	carry(t, func(i int) map[int]int { return map[int]int{i: 1} })
	carry(t, func(i int) struct{} { return struct{}{} })
	carry(t, func(i int) api.Sym { return api.Sym(i % 3) })
	carry(t, func(i int) api.Cell { return api.Cell{Age: int64(i), Report: api.Said{Is: true}} })
	carry(t, func(i int) any { return []any{nil, i, "a", []int{i}}[i%4] })
	carry(t, func(i int) error { return []error{nil, api.ErrArg, errors.New("a")}[i%3] })
	carry(t, func(i int) *lines.Line[int] { return carried[i%4] })
	carry(t, func(i int) lines.Line[int] { return *carried[1+i%3] })
}

// own: what Way answers is new memory, for things that are unlike each other.
func own[T any](t *testing.T, a, b T) {
	t.Helper()
	l := made[T](t, 2)
	send(t, l, api.OK, a)
	first, second := l.Way(), l.Way()
	if len(first) != 1 || len(second) != 1 || &first[0] == &second[0] {
		t.Fatalf("Way() = %v, and %v", first, second)
	}
	first[0] = b
	first = append(first, b, b)
	first[0] = b
	if !alike(second[0], a) {
		t.Errorf("what was answered is %v, and was %v", second[0], a)
	}
	way(t, l, a)
	send(t, l, api.OK, b)
	if !alike(second[0], a) {
		t.Errorf("what was answered is %v, and was %v", second[0], a)
	}
	second[0] = b
	here(t, l, a)
	way(t, l, b)
	l.Way()[0] = a
	clear(l.Way())
	way(t, l, b)
	send(t, l, api.OK)
	here(t, l, b)
	way(t, l)
}

func TestWayIsNewMemory(t *testing.T) { // P7.2, R4: whatever is done to it
	own(t, 1, 2)
	own(t, byte(1), byte(2))
	own(t, true, false)
	own(t, "a", "")
	own(t, [3]byte{1}, [3]byte{2})
	own(t, []int{1, 2}, nil)
	own[any](t, 1, nil)
	own(t, made[int](t, 1), made[int](t, 1))
	own(t, *made[int](t, 1), *made[int](t, 2))
}

func TestWayHasNoRoomBehind(t *testing.T) { // R4: of a line on which nothing is neither
	for _, hop := range hops() {
		l := made[byte](t, hop)
		for i := range 9 {
			if w := l.Way(); len(w) != cap(w) {
				t.Errorf("by hop %d: Way() has %d, and room for %d", hop, len(w), cap(w))
			}
			send(t, l, api.OK, []byte{5}[:i%3%2]...)
		}
	}
}

func TestTheListThatIsSentIsNotKept(t *testing.T) { // R1: it may be changed behind the call
	for _, hop := range hops() {
		l, m, list := made[int](t, hop), &model[int]{hop: hop}, make([]int, 1)
		for i := range 50 {
			list[0] = i
			send(t, l, m.send(i), list...)
			list[0] = -1
			m.check(t, l)
		}
	}
}

func TestTheListThatIsSentIsNotChanged(t *testing.T) { // R1: nor is what is in the room behind it
	for _, hop := range hops() {
		l, m := made[int](t, hop), &model[int]{hop: hop}
		all, like := []int{5, 6, 7, 8}, []int{5, 6, 7, 8}
		for i := range 40 {
			some := all[i%4 : min(i%4+i%3, 4)]
			send(t, l, m.send(some...), some...)
			m.check(t, l)
			_ = append(l.Way(), 9, 9)
			if !reflect.DeepEqual(all, like) {
				t.Fatalf("by hop %d: %v, and was %v", hop, all, like)
			}
		}
	}
}

func TestLinesAreTheirOwn(t *testing.T) { // R5: turn by turn, each as it would be alone
	source := rand.New(rand.NewSource(777))
	var all []*lines.Line[int]
	var alone []*model[int]
	for i := range 12 {
		all, alone = append(all, made[int](t, 1+i%2)), append(alone, &model[int]{hop: 1 + i%2})
	}
	for i := range 20000 {
		which := source.Intn(len(all))
		step(t, all[which], alone[which], []int{i, i, i}[:source.Intn(4)]...)
		other := source.Intn(len(all))
		alone[other].check(t, all[other])
	}
}

func TestACopyOfALineIsItsOwn(t *testing.T) { // R5: both go on from what was on it
	for _, hop := range hops() {
		l, m := made[int](t, hop), &model[int]{hop: hop}
		step(t, l, m, 1)
		step(t, l, m, 2)
		other, like := *l, *m
		like.sent = append([][]int{}, m.sent...)
		for i := range 9 {
			step(t, l, m, 10+i)
			like.check(t, &other)
			step(t, &other, &like, []int{20 + i}[:i%2]...)
			m.check(t, l)
		}
	}
}

func TestALineOnALine(t *testing.T) { // R5: what goes on on the one changes nothing of the other
	for _, hop := range hops() {
		inner, m := made[int](t, hop), &model[int]{hop: hop}
		outer, n := made[*lines.Line[int]](t, hop), &model[*lines.Line[int]]{hop: hop}
		for i := range 50 {
			step(t, outer, n, []*lines.Line[int]{inner}[:i%3%2]...)
			m.check(t, inner)
			step(t, inner, m, []int{i}[:i%2]...)
			n.check(t, outer)
			if x, is := outer.Here(); is {
				step(t, x, m, -i) // whoever takes it off has the very line that was sent
				m.check(t, inner)
			}
		}
		self, k := made[any](t, hop), &model[any]{hop: hop}
		for range 5 {
			step(t, self, k, any(self)) // even a line that is on itself
		}
	}
}
