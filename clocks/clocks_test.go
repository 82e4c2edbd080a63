package clocks_test

import (
	"math"
	"math/rand"
	"reflect"
	"testing"

	"sennit/api"
	"sennit/clocks"
	"sennit/configs"
)

// most: the greatest age, as the document tells it.
const most = 1099511627776

// shown: the config of the document's examples.
func shown() api.Config {
	return api.Config{Nodes: 4, Pairs: []int{0, 2}, Slots: []int{0, 1, 1}, Long: 120, Boots: []int{0, 0, 0, 0}, Miss: 3, Good: 3, Fresh: 3}
}

// sized: a net of so many slots of so many ticks.
func sized(t *testing.T, slots, long int) *configs.Net {
	t.Helper()
	c := shown()
	c.Long, c.Slots = long, make([]int, slots)
	for i := range c.Slots {
		c.Slots[i] = i % 2
	}
	n, e := configs.New(c)
	if e != api.OK {
		t.Fatalf("New(%+v): %d", c, e)
	}
	return n
}

// size of a net's rounds.
type size struct{ slots, long int }

// sizes of rounds, the shortest and the longest ones among them. Of 257 ticks the greatest age is a
// slot's last one; of 16 slots of 4096 it is a round's first one, and all rounds' ticks are powers of 2,
// so that those of too many rounds wrap round to some that might be.
func sizes() []size {
	return []size{{3, 120}, {2, 120}, {16, 120}, {2, 4096}, {16, 4096}, {7, 257}, {5, 1021}, {13, 4095}}
}

// ends: numbers below 0, and some that are too great for rounds, slots and places alike.
func ends() []int {
	return []int{math.MinInt, math.MinInt + 1, math.MinInt32, -65536, -4096, -120, -2, -1, 1 << 33, 1 << 40, 1 << 62, math.MaxInt - 1, math.MaxInt}
}

// noAges: numbers of ticks that are no age.
func noAges() []int64 {
	return []int64{-1, -2, -120, -360, -65536, -most, math.MinInt64 + 1, math.MinInt64, most + 1, most + 2, most + 120, 2 * most, 1 << 62, math.MaxInt64 - 1, math.MaxInt64}
}

// noNets: one that is not there, and some that no call made.
func noNets() map[string]*configs.Net {
	return map[string]*configs.Net{
		"nil":                     nil,
		"empty":                   {},
		"made by hand":            {Config: shown()},
		"made by hand, of nought": {Config: api.Config{Slots: []int{}, Long: 120}},
	}
}

// worded: an age's time as the document words it: whole rounds, then whole slots of what is left, then ticks.
func worded(s size, age int64) clocks.Time {
	rounds := age / int64(s.slots*s.long)
	left := int(age - rounds*int64(s.slots*s.long))
	t := clocks.Time{Round: rounds}
	for left >= s.long {
		left -= s.long
		t.Slot++
	}
	t.Place = left
	return t
}

// tell fails if an age is not told as that time, or the time not as that age, or its slots not as so many.
func tell(t *testing.T, n *configs.Net, age int64, want clocks.Time, ahead int64) {
	t.Helper()
	if got, e := clocks.Of(n, age); got != want || e != api.OK {
		t.Errorf("Of(%d) = %+v, %d, want %+v", age, got, e, want)
	}
	if got, e := clocks.Age(n, want); got != age || e != api.OK {
		t.Errorf("Age(%+v) = %d, %d, want %d", want, got, e, age)
	}
	if got := clocks.Ahead(n, want); got != ahead {
		t.Errorf("Ahead(%+v) = %d, want %d", want, got, ahead)
	}
}

// refuse fails if a time is told as an age.
func refuse(t *testing.T, n *configs.Net, x clocks.Time, want api.Errno) {
	t.Helper()
	if got, e := clocks.Age(n, x); got != 0 || e != want {
		t.Errorf("Age(%+v) = %d, %d, want 0, %d", x, got, e, want)
	}
	if got := clocks.Ahead(n, x); got != -1 {
		t.Errorf("Ahead(%+v) = %d, want -1", x, got)
	}
}

func TestAsTheDocumentHasIt(t *testing.T) { // P6.1, P6.2: its examples
	n := sized(t, 3, 120)
	tell(t, n, 500, clocks.Time{Round: 1, Slot: 1, Place: 20}, 4)
	c := clocks.New(n)
	step(t, c, 119, true, clocks.Time{}, false)
	step(t, c, 120, true, clocks.Time{Slot: 1}, true)
	step(t, c, 7, false, clocks.Time{Slot: 1, Place: 1}, true)
}

func TestTimesOfAges(t *testing.T) { // P6.1: the first and the last tick of slots and rounds
	n := sized(t, 3, 120)
	for _, c := range []struct {
		age   int64
		want  clocks.Time
		ahead int64
	}{
		{0, clocks.Time{}, 0},
		{1, clocks.Time{Place: 1}, 0},
		{119, clocks.Time{Place: 119}, 0},
		{120, clocks.Time{Slot: 1}, 1},
		{239, clocks.Time{Slot: 1, Place: 119}, 1},
		{240, clocks.Time{Slot: 2}, 2},
		{359, clocks.Time{Slot: 2, Place: 119}, 2},
		{360, clocks.Time{Round: 1}, 3},
		{361, clocks.Time{Round: 1, Place: 1}, 3},
		{719, clocks.Time{Round: 1, Slot: 2, Place: 119}, 5},
		{720, clocks.Time{Round: 2}, 6},
		{most - 17, clocks.Time{Round: 3054198965, Slot: 2, Place: 119}, 9162596897},
		{most - 16, clocks.Time{Round: 3054198966}, 9162596898},
		{most - 1, clocks.Time{Round: 3054198966, Place: 15}, 9162596898},
		{most, clocks.Time{Round: 3054198966, Place: 16}, 9162596898},
	} {
		tell(t, n, c.age, c.want, c.ahead)
	}
	tell(t, sized(t, 16, 4096), most, clocks.Time{Round: 1 << 24}, 1<<28)
	tell(t, sized(t, 16, 4096), most-1, clocks.Time{Round: 1<<24 - 1, Slot: 15, Place: 4095}, 1<<28-1)
}

func TestTimesAreCountedTickByTick(t *testing.T) { // P6.1, P6.3: from 0 on, as hands of a clock go
	for _, s := range sizes() {
		n := sized(t, s.slots, s.long)
		want, ahead := clocks.Time{}, int64(0)
		for age := range int64(3*s.slots*s.long + 1) {
			tell(t, n, age, want, ahead)
			if want.Place++; want.Place == s.long {
				want.Place = 0
				want.Slot++
				ahead++
			}
			if want.Slot == s.slots {
				want.Slot = 0
				want.Round++
			}
			if t.Failed() {
				t.Fatal(s)
			}
		}
	}
}

func TestTimesAreAsTheyAreWorded(t *testing.T) { // P6.1: far ages, up to the greatest
	source := rand.New(rand.NewSource(6))
	for _, s := range sizes() {
		n := sized(t, s.slots, s.long)
		check := func(age int64) {
			want := worded(s, age)
			tell(t, n, age, want, want.Round*int64(s.slots)+int64(want.Slot))
		}
		for range 2000 {
			check(source.Int63n(most + 1))
			check(source.Int63n(1 << (1 + source.Intn(40))))
		}
		for age := most - int64(2*s.slots*s.long); age <= most; age += 7 {
			check(age)
		}
		check(most)
	}
}

func TestOfWhatIsNoAge(t *testing.T) { // P6.1: below 0, and above the greatest
	for _, s := range sizes() {
		n := sized(t, s.slots, s.long)
		for _, age := range noAges() {
			if got, e := clocks.Of(n, age); got != (clocks.Time{}) || e != api.ErrArg {
				t.Errorf("Of(%d) = %+v, %d, want ErrArg", age, got, e)
			}
		}
	}
}

func TestTimesThatAreNone(t *testing.T) { // P6.1: rounds, slots and places below 0, the last one, one above
	for _, s := range sizes() {
		n := sized(t, s.slots, s.long)
		last := clocks.Time{Slot: s.slots - 1, Place: s.long - 1}
		tell(t, n, int64(s.slots*s.long-1), last, int64(s.slots-1))
		for _, x := range append(ends(), s.slots, s.slots+1) {
			refuse(t, n, clocks.Time{Slot: x}, api.ErrArg)
			refuse(t, n, clocks.Time{Round: 2, Slot: x, Place: 1}, api.ErrArg)
		}
		for _, x := range append(ends(), s.long, s.long+1) {
			refuse(t, n, clocks.Time{Place: x}, api.ErrArg)
			refuse(t, n, clocks.Time{Round: 2, Slot: 1, Place: x}, api.ErrArg)
		}
		for _, x := range ends() {
			refuse(t, n, clocks.Time{Round: int64(x)}, api.ErrArg)
			refuse(t, n, clocks.Time{Round: int64(x), Slot: 1, Place: 1}, api.ErrArg)
			refuse(t, n, clocks.Time{Round: int64(x), Slot: x, Place: x}, api.ErrArg)
		}
		// What is too little of one may not be made up for by what is too much of another one.
		refuse(t, n, clocks.Time{Round: 1, Slot: -1}, api.ErrArg)
		refuse(t, n, clocks.Time{Slot: 1, Place: -1}, api.ErrArg)
		refuse(t, n, clocks.Time{Round: -1, Slot: s.slots}, api.ErrArg)
		refuse(t, n, clocks.Time{Round: 1, Slot: -1, Place: s.long}, api.ErrArg)
	}
}

func TestTimesAboveTheGreatestAge(t *testing.T) { // P6.1: the time of MaxAge, and those behind it
	for _, s := range sizes() {
		n := sized(t, s.slots, s.long)
		tell(t, n, most, worded(s, most), most/int64(s.long))
		for _, more := range []int{1, 2, s.long - 1, s.long, s.long + 1, s.slots * s.long, s.slots*s.long + 1} {
			refuse(t, n, worded(s, most+int64(more)), api.ErrArg)
		}
	}
	refuse(t, sized(t, 3, 120), clocks.Time{Round: 3054198966, Place: 17}, api.ErrArg)
	refuse(t, sized(t, 3, 120), clocks.Time{Round: 3054198966, Slot: 1}, api.ErrArg)
	refuse(t, sized(t, 3, 120), clocks.Time{Round: 3054198967}, api.ErrArg)
}

func TestRoundsThatWrapRound(t *testing.T) { // P6.1: so many that their slots, or ticks, would be an age's again
	for _, s := range sizes() {
		n := sized(t, s.slots, s.long)
		for shift := 40; shift < 63; shift++ {
			for _, more := range []int64{-1, 0, 1, 1000} {
				refuse(t, n, clocks.Time{Round: 1<<shift + more, Slot: 1, Place: 1}, api.ErrArg)
				refuse(t, n, clocks.Time{Round: -(1<<shift + more), Slot: 1, Place: 1}, api.ErrArg)
			}
		}
		for _, ticks := range []uint64{uint64(s.slots), uint64(s.slots * s.long)} {
			rounds := math.MaxUint64/ticks + 1 // what these have is a whole turn of all numbers, and a little more
			refuse(t, n, clocks.Time{Round: int64(rounds)}, api.ErrArg)
			refuse(t, n, clocks.Time{Round: int64(rounds), Slot: 1, Place: 1}, api.ErrArg)
		}
	}
}

func TestOfNoNet(t *testing.T) { // P6.1, P6.2, R2, R3: whatever else is wrong, that there is none is told first
	for what, n := range noNets() {
		for _, age := range append(noAges(), 0, 1, 120, most) {
			if got, e := clocks.Of(n, age); got != (clocks.Time{}) || e != api.ErrNil {
				t.Errorf("%s: Of(%d) = %+v, %d, want ErrNil", what, age, got, e)
			}
		}
		for _, x := range append(ends(), 0, 1) {
			refuse(t, n, clocks.Time{Round: int64(x)}, api.ErrNil)
			refuse(t, n, clocks.Time{Slot: x}, api.ErrNil)
			refuse(t, n, clocks.Time{Place: x}, api.ErrNil)
			refuse(t, n, clocks.Time{Round: int64(x), Slot: x, Place: x}, api.ErrNil)
		}
		if c := clocks.New(n); c != nil {
			t.Errorf("%s: New = %+v, want none", what, c)
		}
	}
}

func TestANetsScaleIsAsItWasMade(t *testing.T) { // P6.1, P6.2: whatever is written to the config that a net embeds
	for _, long := range []int{0, -1, 121, math.MaxInt} {
		n := sized(t, 3, 120)
		n.Long, n.Slots = long, nil
		tell(t, n, 500, clocks.Time{Round: 1, Slot: 1, Place: 20}, 4)
		refuse(t, n, clocks.Time{Place: 120}, api.ErrArg)
		step(t, clocks.New(n), 120, true, clocks.Time{Slot: 1}, true)
	}
}

// step fails if a clock's tick is told otherwise, or its slot is not told as that tick's.
func step(t *testing.T, c *clocks.Clock, age int64, sure bool, want clocks.Time, runs bool) {
	t.Helper()
	if got, is := c.Tick(age, sure); got != want || is != runs {
		t.Errorf("Tick(%d, %v) = %+v, %v, want %+v, %v", age, sure, got, is, want, runs)
	}
}

// slot fails if a clock's slot is told otherwise, when asked, and when asked again.
func slot(t *testing.T, c *clocks.Clock, want int64, runs bool) {
	t.Helper()
	for range 2 {
		if got, is := c.Slot(); got != want || is != runs {
			t.Errorf("Slot() = %d, %v, want %d, %v", got, is, want, runs)
		}
	}
}

// run a clock through the rest of a slot, from a place on, by ages that a function tells.
func run(t *testing.T, c *clocks.Clock, s size, begun clocks.Time, from int, tick func(place int) (age int64, sure bool)) {
	t.Helper()
	for place := from; place < s.long && !t.Failed(); place++ {
		age, sure := tick(place)
		begun.Place = place
		step(t, c, age, sure, begun, true)
		slot(t, c, begun.Round*int64(s.slots)+int64(begun.Slot), true)
	}
}

func TestOfNoClock(t *testing.T) { // P6.2, R3: one that is not there, or that no call made
	var unmade clocks.Clock
	for _, c := range []*clocks.Clock{nil, {}, &unmade, new(clocks.Clock)} {
		for _, age := range append(noAges(), 0, 1, 120, 240, most) {
			slot(t, c, 0, false)
			step(t, c, age, true, clocks.Time{}, false)
			step(t, c, age, false, clocks.Time{}, false)
			slot(t, c, 0, false)
		}
	}
}

func TestANewClockRunsNoSlot(t *testing.T) { // P6.2
	for _, s := range sizes() {
		c := clocks.New(sized(t, s.slots, s.long))
		if c == nil {
			t.Fatal(s)
		}
		slot(t, c, 0, false)
	}
}

func TestTicksThatBeginNoSlot(t *testing.T) { // P6.2: no age, another place than 0, or not sure
	for _, s := range sizes() {
		c := clocks.New(sized(t, s.slots, s.long))
		long := int64(s.long)
		for _, age := range noAges() {
			step(t, c, age, true, clocks.Time{}, false)
			step(t, c, age, false, clocks.Time{}, false)
			slot(t, c, 0, false)
		}
		for _, age := range []int64{0, long, long * int64(s.slots), 7 * long, most - most%long} {
			step(t, c, age, false, clocks.Time{}, false)
			slot(t, c, 0, false)
		}
		for place := int64(1); place < long; place++ {
			step(t, c, 5*long+place, true, clocks.Time{}, false)
			step(t, c, 5*long+place, false, clocks.Time{}, false)
			slot(t, c, 0, false)
		}
		// None of these is kept: the next tick that may begin a slot does.
		step(t, c, 5*long, true, worded(s, 5*long), true)
		slot(t, c, 5, true)
	}
}

func TestEachSlotMayBegin(t *testing.T) { // P6.2: the first one, the last one of a round, a later round's, the greatest one
	for _, s := range sizes() {
		n := sized(t, s.slots, s.long)
		for _, ahead := range []int64{0, 1, int64(s.slots - 1), int64(s.slots), int64(5*s.slots + 1), most / int64(s.long)} {
			c, age := clocks.New(n), ahead*int64(s.long)
			begun := worded(s, age)
			step(t, c, age, true, begun, true)
			slot(t, c, ahead, true)
			run(t, c, s, begun, 1, func(place int) (int64, bool) { return age + int64(place), true })
		}
	}
}

func TestASlotRunsOnWhateverAgesCome(t *testing.T) { // P6.2, P6.3
	source := rand.New(rand.NewSource(66))
	s := size{3, 120}
	for what, tick := range map[string]func(place int) (int64, bool){
		"ages that go on":              func(place int) (int64, bool) { return 480 + int64(place), true },
		"ages that are not sure":       func(place int) (int64, bool) { return 480 + int64(place), false },
		"ages that stand still":        func(int) (int64, bool) { return 480, true },
		"another slot's first age":     func(int) (int64, bool) { return 600, true },
		"an earlier slot's first age":  func(int) (int64, bool) { return 0, true },
		"ages that go back":            func(place int) (int64, bool) { return 480 - int64(place), true },
		"ages that leap":               func(place int) (int64, bool) { return int64(place) * 120, true },
		"no age, below 0":              func(int) (int64, bool) { return -1, true },
		"no age, above the greatest":   func(int) (int64, bool) { return most + 1, true },
		"the least and the greatest":   func(place int) (int64, bool) { return []int64{math.MinInt64, math.MaxInt64}[place%2], true },
		"any ages, any of them sure":   func(int) (int64, bool) { return int64(source.Uint64()), source.Intn(2) == 0 },
		"first ages, any of them sure": func(int) (int64, bool) { return 120 * source.Int63n(99), source.Intn(2) == 0 },
		"an age that comes at its end": func(place int) (int64, bool) { return 480 + int64(max(place-100, 0)), true },
		"no age that is not sure":      func(int) (int64, bool) { return -1, false },
		"the last tick is a first one": func(place int) (int64, bool) { return []int64{7, 480}[place/119], true },
		"the second tick is a first one": func(place int) (int64, bool) {
			return map[bool]int64{true: 600, false: 7}[place == 1], true
		},
	} {
		t.Run(what, func(t *testing.T) {
			c := clocks.New(sized(t, s.slots, s.long))
			begun := clocks.Time{Round: 1, Slot: 1}
			step(t, c, 480, true, begun, true)
			slot(t, c, 4, true)
			run(t, c, s, begun, 1, tick)
			step(t, c, 601, true, clocks.Time{}, false)
			slot(t, c, 0, false)
		})
	}
}

func TestASlotRunsOnBehindTheGreatestAge(t *testing.T) { // P6.2, P6.3: its places are by its own count, and no age's any more
	for _, s := range sizes() {
		n := sized(t, s.slots, s.long)
		c, age := clocks.New(n), most-most%int64(s.long)
		begun := worded(s, age)
		step(t, c, age, true, begun, true)
		run(t, c, s, begun, 1, func(place int) (int64, bool) { return age + int64(place), true })
		step(t, c, age+int64(s.long), true, clocks.Time{}, false)
		slot(t, c, 0, false)
	}
}

func TestTheTickBehindASlotsLast(t *testing.T) { // P6.2, P6.3: it may begin any slot, the same one again included
	s := size{3, 120}
	for _, next := range []struct {
		age  int64
		sure bool
		want clocks.Time
		runs bool
	}{
		{600, true, clocks.Time{Round: 1, Slot: 2}, true},
		{480, true, clocks.Time{Round: 1, Slot: 1}, true},
		{0, true, clocks.Time{}, true},
		{120, true, clocks.Time{Slot: 1}, true},
		{720, true, clocks.Time{Round: 2}, true},
		{most - 16, true, clocks.Time{Round: 3054198966}, true},
		{600, false, clocks.Time{}, false},
		{599, true, clocks.Time{}, false},
		{601, true, clocks.Time{}, false},
		{-1, true, clocks.Time{}, false},
		{-120, true, clocks.Time{}, false},
		{most + 104, true, clocks.Time{}, false},
	} {
		c := clocks.New(sized(t, s.slots, s.long))
		begun := clocks.Time{Round: 1, Slot: 1}
		step(t, c, 480, true, begun, true)
		run(t, c, s, begun, 1, func(place int) (int64, bool) { return 480 + int64(place), true })
		step(t, c, next.age, next.sure, next.want, next.runs)
		if next.runs {
			slot(t, c, 3*next.want.Round+int64(next.want.Slot), true)
			run(t, c, s, next.want, 1, func(int) (int64, bool) { return 0, true })
		} else {
			slot(t, c, 0, false)
			step(t, c, 600, true, clocks.Time{Round: 1, Slot: 2}, true)
			slot(t, c, 5, true)
		}
	}
}

func TestAClockThatGoesOnRunsSlotBehindSlot(t *testing.T) { // P6.2, P6.3: by ages that go on it shows their times
	for _, s := range sizes() {
		n := sized(t, s.slots, s.long)
		c := clocks.New(n)
		for age := range int64(2*s.slots*s.long + 5) {
			step(t, c, age, true, worded(s, age), true)
			slot(t, c, age/int64(s.long), true)
			if t.Failed() {
				t.Fatal(s)
			}
		}
	}
}

// model of a clock: when its slot began, by how many ticks there were, and of which age that was.
type model struct {
	size
	ticks, began int
	age          int64
	running      bool
}

func (m *model) tick(age int64, sure bool) (clocks.Time, bool) {
	m.ticks++
	if m.running && m.ticks-m.began == m.long {
		m.running = false
	}
	if !m.running && sure && age >= 0 && age <= most && age%int64(m.long) == 0 {
		m.running, m.began, m.age = true, m.ticks, age
	}
	if !m.running {
		return clocks.Time{}, false
	}
	t := worded(m.size, m.age)
	t.Place = m.ticks - m.began
	return t, true
}

// drawn: an age that often is a slot's first one, or near the greatest one, and sometimes none.
func drawn(source *rand.Rand, s size) int64 {
	switch source.Intn(6) {
	case 0:
		return int64(source.Uint64())
	case 1:
		return most - source.Int63n(int64(3*s.long))
	case 2:
		return source.Int63n(int64(3 * s.long))
	case 3:
		return source.Int63n(most+1) / int64(s.long) * int64(s.long)
	case 4:
		return -source.Int63n(int64(3 * s.long))
	}
	return source.Int63n(40) * int64(s.long)
}

func TestClocksAreAsTheyAreWorded(t *testing.T) { // P6.2, P6.3: many ticks of any kind against a count of them
	source := rand.New(rand.NewSource(666))
	for _, s := range sizes() {
		c, m := clocks.New(sized(t, s.slots, s.long)), model{size: s}
		for range 40 * s.long {
			age, sure := drawn(source, s), source.Intn(40) == 0
			want, runs := m.tick(age, sure)
			step(t, c, age, sure, want, runs)
			slot(t, c, want.Round*int64(s.slots)+int64(want.Slot), runs)
			if t.Failed() {
				t.Fatal(s, m)
			}
		}
	}
}

func TestSlotsBeginASlotsLengthApart(t *testing.T) { // P6.3: and each that begins comes to its end
	source := rand.New(rand.NewSource(6666))
	for _, s := range sizes() {
		c, last, place := clocks.New(sized(t, s.slots, s.long)), -s.long, -1
		for tick := range 30 * s.long {
			got, is := c.Tick(drawn(source, s), source.Intn(9) > 0)
			switch {
			case !is && place >= 0 && place != s.long-1:
				t.Fatalf("%v: a slot ends at place %d", s, place)
			case is && got.Place == 0 && tick-last < s.long:
				t.Fatalf("%v: slots begin at ticks %d and %d", s, last, tick)
			case is && got.Place == 0:
				last = tick
			case is && got.Place != place+1:
				t.Fatalf("%v: place %d behind place %d", s, got.Place, place)
			}
			if place = got.Place; !is {
				place = -1
			}
		}
	}
}

// earlier: is a time ahead of another one, by its parts in order?
func earlier(a, b clocks.Time) bool {
	if a.Round != b.Round {
		return a.Round < b.Round
	}
	if a.Slot != b.Slot {
		return a.Slot < b.Slot
	}
	return a.Place < b.Place
}

func TestTimesRiseWithAges(t *testing.T) { // P6.3: and of each time there is one age
	source := rand.New(rand.NewSource(66666))
	for _, s := range sizes() {
		n := sized(t, s.slots, s.long)
		for _, from := range []int64{0, source.Int63n(most / 2), most - int64(2*s.slots*s.long)} {
			last, _ := clocks.Of(n, from)
			for age := from + 1; age <= from+int64(2*s.slots*s.long); age++ {
				got, e := clocks.Of(n, age)
				if e != api.OK || !earlier(last, got) {
					t.Fatalf("%v: Of(%d) = %+v, %d, behind %+v", s, age, got, e, last)
				}
				last = got
			}
		}
		for range 1000 {
			x := clocks.Time{Round: source.Int63n(most / int64(s.slots*s.long)), Slot: source.Intn(s.slots), Place: source.Intn(s.long)}
			age, e := clocks.Age(n, x)
			if got, _ := clocks.Of(n, age); e != api.OK || got != x {
				t.Fatalf("%v: Age(%+v) = %d, %d, whose time is %+v", s, x, age, e, got)
			}
		}
	}
}

func TestEachPlaceOfARoundHasAnAgeOfItsOwn(t *testing.T) { // P6.1, P6.3: none twice, none left out
	for _, s := range []size{{3, 120}, {2, 257}} {
		n, seen := sized(t, s.slots, s.long), map[int64]clocks.Time{}
		for place := range s.long {
			for slot := range s.slots {
				for round := range int64(3) {
					x := clocks.Time{Round: round, Slot: slot, Place: place}
					age, e := clocks.Age(n, x)
					if other, is := seen[age]; is || e != api.OK || age < 0 || age >= int64(3*s.slots*s.long) {
						t.Fatalf("%v: Age(%+v) = %d, %d, as of %+v", s, x, age, e, other)
					}
					seen[age] = x
				}
			}
		}
	}
}

func TestClocksAreTheirOwn(t *testing.T) { // R5: of one net and of others, turn by turn, as each would alone
	source := rand.New(rand.NewSource(7))
	shared := sized(t, 3, 120)
	all, alone := []*clocks.Clock{}, []model{}
	for range 3 {
		all, alone = append(all, clocks.New(shared)), append(alone, model{size: size{3, 120}})
	}
	for _, s := range sizes() {
		all, alone = append(all, clocks.New(sized(t, s.slots, s.long))), append(alone, model{size: s})
	}
	for range 20000 {
		i := source.Intn(len(all))
		age, sure := drawn(source, alone[i].size), source.Intn(3) == 0
		want, runs := alone[i].tick(age, sure)
		step(t, all[i], age, sure, want, runs)
		slot(t, all[i], want.Round*int64(alone[i].slots)+int64(want.Slot), runs)
		if t.Failed() {
			t.Fatal(i)
		}
	}
}

func TestANetStaysAsItIs(t *testing.T) { // R1, R5: no call changes it
	n, like := sized(t, 3, 120), sized(t, 3, 120)
	c := clocks.New(n)
	for age := int64(-5); age < 800; age++ {
		x, _ := clocks.Of(n, age)
		clocks.Age(n, x)
		clocks.Age(n, clocks.Time{Round: age, Slot: int(-age), Place: 999})
		clocks.Ahead(n, x)
		c.Tick(age, true)
		c.Slot()
	}
	if !reflect.DeepEqual(n, like) {
		t.Errorf("%+v, and was %+v", n, like)
	}
}

func TestAClockOutlivesItsNet(t *testing.T) { // R1: the net that was handed in isn't kept
	n := sized(t, 3, 120)
	c, busy := clocks.New(n), clocks.New(n)
	step(t, busy, 240, true, clocks.Time{Slot: 2}, true)
	*n = *sized(t, 16, 4096)
	step(t, c, 480, true, clocks.Time{Round: 1, Slot: 1}, true)
	slot(t, c, 4, true)
	*n = configs.Net{}
	run(t, c, size{3, 120}, clocks.Time{Round: 1, Slot: 1}, 1, func(int) (int64, bool) { return 0, true })
	run(t, busy, size{3, 120}, clocks.Time{Slot: 2}, 1, func(int) (int64, bool) { return 0, true })
	step(t, c, 600, true, clocks.Time{Round: 1, Slot: 2}, true)
}

func TestNothingIsKept(t *testing.T) { // P6.1: what is told of an age hangs on nothing that was asked ahead of it
	n, other := sized(t, 3, 120), sized(t, 7, 257)
	for range 3 {
		tell(t, n, 500, clocks.Time{Round: 1, Slot: 1, Place: 20}, 4)
		clocks.Of(nil, 500)
		clocks.Of(n, -1)
		refuse(t, n, clocks.Time{Slot: 3}, api.ErrArg)
		tell(t, other, 500, clocks.Time{Slot: 1, Place: 243}, 1)
		c := clocks.New(other)
		c.Tick(257, true)
		tell(t, n, 257, clocks.Time{Slot: 2, Place: 17}, 2)
	}
}
