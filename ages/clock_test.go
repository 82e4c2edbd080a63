package ages_test

import (
	"math"
	"math/rand"
	"slices"
	"testing"

	"sennit/ages"
	"sennit/api"
)

// newClock of so many nodes.
func newClock(t *testing.T, n int) *ages.Clock {
	t.Helper()
	c, e := ages.New(n)
	if c == nil || e != api.OK {
		t.Fatalf("New(%d) = %v, %d", n, c, e)
	}
	return c
}

// step fails if a clock tells another age, or shows something else.
func step(t *testing.T, c *ages.Clock, common, cold, age, shows int64) {
	t.Helper()
	if a, s := c.Step(common, cold); a != age || s != shows {
		t.Fatalf("Step(%d, %d) = %d, %d, want %d, %d", common, cold, a, s, age, shows)
	}
}

// record of a clock: all the ages that it ever had.
type record struct {
	n   int
	all []int64
}

// step: what a clock has to tell and to show, as the document words it.
func (r *record) step(common, cold int64) (age, shows int64) {
	age = -1
	switch {
	case common >= 0 && common <= most:
		if common <= most-int64(2*r.n) {
			age = common + int64(2*r.n)
		}
	case cold >= 0 && cold <= most:
		age = cold
	}
	r.all = append(r.all, age)
	shows = -1
	for d := 0; d <= 2*r.n-1 && d < len(r.all); d++ {
		if was := r.all[len(r.all)-1-d]; was != -1 && was+int64(d) > shows {
			shows = was + int64(d)
		}
	}
	if shows > most {
		shows = -1
	}
	return age, shows
}

// both: a clock, and the record of what it has to do.
type both struct {
	c *ages.Clock
	r *record
}

func newBoth(t *testing.T, n int) both {
	t.Helper()
	return both{c: newClock(t, n), r: &record{n: n}}
}

// step of both; it fails if they tell, or show, something unlike.
func (b both) step(t *testing.T, common, cold int64) (age, shows int64) {
	t.Helper()
	age, shows = b.r.step(common, cold)
	if a, s := b.c.Step(common, cold); a != age || s != shows {
		t.Fatalf("of %d nodes, tick %d: Step(%d, %d) = %d, %d, want %d, %d", b.r.n, len(b.r.all)-1, common, cold, a, s, age, shows)
	}
	return age, shows
}

func TestClocksOfNodesThatMayNotBe(t *testing.T) { // P16.2: no clock, and the error; of those that may be there is one
	for _, n := range noNumbers() {
		if c, e := ages.New(n); c != nil || e != api.ErrArg {
			t.Errorf("New(%d) = %v, %d, want ErrArg", n, c, e)
		}
	}
	for n := api.MinNodes; n <= api.MaxNodes; n++ {
		newClock(t, n)
	}
}

func TestStepsAsTheDocumentHasThem(t *testing.T) { // P16.2: its examples
	c := newClock(t, 4)
	step(t, c, -1, 3, 3, 3)
	step(t, c, 2, 4, 10, 10)
	step(t, c, -1, 5, 5, 11)
}

func TestToANewClockNoTickHasCome(t *testing.T) { // P16.2: it shows nothing, till there is an age, however long that takes
	for n := api.MinNodes; n <= api.MaxNodes; n++ {
		c := newClock(t, n)
		for range 5 * n {
			step(t, c, -1, -1, -1, -1)
		}
		step(t, c, -1, 0, 0, 0)
		step(t, newClock(t, n), -1, 0, 0, 0)
		step(t, newClock(t, n), 0, -1, int64(2*n), int64(2*n))
	}
}

func TestOfNoClock(t *testing.T) { // P16.2, R3: one that is not there, or that no call made
	var unmade ages.Clock
	for _, c := range []*ages.Clock{nil, {}, &unmade, new(ages.Clock)} {
		for _, common := range append(noAges(), 0, 5, most) {
			for _, cold := range append(noAges(), 0, 5, most) {
				step(t, c, common, cold, -1, -1)
				step(t, c, common, cold, -1, -1)
			}
		}
	}
}

func TestTheAgeOfATick(t *testing.T) { // P16.2: each common age with each cold one, at its edges: the common one and 2N, if there is one; else the cold one; none above MaxAge
	for n := api.MinNodes; n <= api.MaxNodes; n++ {
		later := int64(2 * n)
		edges := append(noAges(), 0, 1, later, 1000, most/2, most-later-1, most-later, most-later+1, most-1, most)
		for _, common := range edges {
			for _, cold := range edges {
				want := int64(-1)
				switch {
				case common >= 0 && common <= most-later:
					want = common + later
				case common >= 0 && common <= most: // it would be above MaxAge: the cold age does not count
				case cold >= 0 && cold <= most:
					want = cold
				}
				step(t, newClock(t, n), common, cold, want, want)
			}
		}
	}
}

func TestColdAgesDoNotCountBesideACommonOne(t *testing.T) { // P16.2: neither lesser nor greater ones
	c := newClock(t, 4)
	step(t, c, 100, 0, 108, 108)
	step(t, c, 101, 5000, 109, 109)
	step(t, c, 102, most, 110, 110)
	step(t, c, 0, most, 8, 111)
}

func TestAnAgeIsShownTwoNTicksLong(t *testing.T) { // P16.2: d from 0 to 2N - 1, and no further: as many ticks, and it is gone
	for n := api.MinNodes; n <= api.MaxNodes; n++ {
		for _, before := range []int{0, 1, n, 2*n - 1, 2 * n, 3*n + 1} {
			for _, common := range []bool{true, false} {
				c := newClock(t, n)
				for range before {
					step(t, c, -1, -1, -1, -1)
				}
				if common {
					step(t, c, 1000-int64(2*n), 0, 1000, 1000)
				} else {
					step(t, c, -1, 1000, 1000, 1000)
				}
				for d := 1; d <= 2*n-1; d++ {
					step(t, c, -1, -1, -1, 1000+int64(d))
				}
				for range 2 * n {
					step(t, c, -1, -1, -1, -1)
				}
			}
		}
	}
}

func TestTheGreatestIsShown(t *testing.T) { // P16.2: each as old as it is by now: the one of any tick, however it stands to the others
	for n := api.MinNodes; n <= api.MaxNodes; n++ {
		for at := range 2 * n {
			// All are as old as each other, but the one of one tick, which is one older, or one younger.
			for _, more := range []int64{1, -1} {
				b := newBoth(t, n)
				for tick := range 5 * n {
					cold, shows := int64(50+tick), int64(50+tick)
					if tick == at {
						cold += more
					}
					if more > 0 && tick >= at && tick < at+2*n || at == 0 && tick == 0 {
						shows += more
					}
					if _, s := b.step(t, -1, cold); s != shows {
						t.Fatalf("of %d nodes, one of tick %d: tick %d shows %d, want %d", n, at, tick, s, shows)
					}
				}
			}
			// Ages that stand still: the oldest of the last 2N is the greatest; then it is the next one.
			b := newBoth(t, n)
			for tick := range 4 * n {
				if _, s := b.step(t, -1, 7); s != 7+int64(min(tick, 2*n-1)) {
					t.Fatalf("of %d nodes, tick %d shows %d", n, tick, s)
				}
			}
		}
	}
}

func TestWhatIsShownAboveTheGreatestAge(t *testing.T) { // P16.2: none, though lesser ones would be left; MaxAge itself is shown
	for n := api.MinNodes; n <= api.MaxNodes; n++ {
		for before := range int64(2 * n) {
			c := newClock(t, n)
			step(t, c, -1, most-before, most-before, most-before)
			for d := int64(1); d <= int64(2*n)-1; d++ {
				shows := most - before + d
				if shows > most {
					shows = -1
				}
				step(t, c, -1, 5, 5, shows)
			}
			step(t, c, -1, 5, 5, 5+int64(2*n)-1)
		}
		c := newClock(t, n)
		step(t, c, most-int64(2*n), 0, most, most)
		for range 2*n - 1 {
			step(t, c, -1, -1, -1, -1)
		}
		step(t, c, most-int64(2*n)+1, 3, -1, -1)
		step(t, c, 3, -1, 3+int64(2*n), 3+int64(2*n))
	}
}

// anyStep: what a clock may be told at a tick.
type anyStep struct {
	r            *rand.Rand
	common, cold int64
}

// next: both mostly count on, and at times stop, jump, are none, or stand at an edge.
func (a *anyStep) next() (common, cold int64) {
	for _, x := range []*int64{&a.common, &a.cold} {
		switch a.r.Intn(24) {
		case 0:
			*x = anyAge(a.r)
		case 1:
			*x = -1
		case 2:
			*x = a.r.Int63n(100)
		case 3:
			*x = most - a.r.Int63n(50)
		case 4, 5:
			*x += a.r.Int63n(21) - 10
		case 6:
		default:
			if *x < math.MaxInt64 {
				*x++
			}
		}
	}
	return a.common, a.cold
}

func TestWhateverAClockIsTold(t *testing.T) { // P16.2: as the document words it, tick by tick
	none, shown, apart := 0, 0, 0
	for n := api.MinNodes; n <= api.MaxNodes; n++ {
		for run := range 20 {
			b := newBoth(t, n)
			feed := anyStep{r: rand.New(rand.NewSource(int64(100*n + run))), common: -1}
			for range 1000 {
				common, cold := feed.next()
				age, shows := b.step(t, common, cold)
				switch {
				case shows == -1:
					none++
				case age == shows:
					shown++
				default:
					apart++
				}
			}
		}
	}
	if none < 10000 || shown < 10000 || apart < 10000 {
		t.Errorf("%d show none, %d their age, %d another one", none, shown, apart)
	}
}

func TestClocksThatGoOnForLong(t *testing.T) { // P16.2: what is kept does not become more, nor less
	for _, n := range []int{4, 7, 16} {
		c := newClock(t, n)
		for tick := range int64(300000) {
			cold := int64(-1)
			if tick%1000 == 0 {
				cold = 2 * tick
			}
			shows := int64(-1)
			if d := tick % 1000; d < int64(2*n) {
				shows = 2*(tick-d) + d
			}
			step(t, c, -1, cold, cold, shows)
		}
	}
}

func TestClocksTurnByTurn(t *testing.T) { // R5: each as it would be alone
	r := rand.New(rand.NewSource(5))
	list := []both{}
	for n := api.MinNodes; n <= api.MaxNodes; n++ {
		list = append(list, newBoth(t, n), newBoth(t, n))
	}
	feed := anyStep{r: r, common: 40}
	for range 40000 {
		common, cold := feed.next()
		list[r.Intn(len(list))].step(t, common, cold)
	}
}

func TestClocksThatAreCopied(t *testing.T) { // R5: each goes on as one of its own, from any tick on
	for n := api.MinNodes; n <= api.MaxNodes; n++ {
		for ticks := range 5 * n {
			r := rand.New(rand.NewSource(int64(n + 100*ticks)))
			feed := anyStep{r: r}
			first := newBoth(t, n)
			for range ticks {
				common, cold := feed.next()
				first.step(t, common, cold)
			}
			c := *first.c
			second := both{c: &c, r: &record{n: n, all: slices.Clone(first.r.all)}}
			for range 6 * n {
				common, cold := feed.next()
				[]both{first, second}[r.Intn(2)].step(t, common, cold)
			}
		}
	}
}

// countsOn fails if a clock that is told its own ages, of 2N ticks ago, as common ones does not count by one from 2N ticks later on.
func countsOn(t *testing.T, b both, cold func(tick int) int64) {
	t.Helper()
	n := b.r.n
	before := int64(-1)
	for tick := range 8 * n {
		_, shows := b.step(t, b.r.all[len(b.r.all)-2*n], cold(tick))
		if tick >= 2*n && (shows != before+1 || shows < 1) {
			t.Fatalf("of %d nodes: it shows %d, and %d a tick ahead", n, shows, before)
		}
		before = shows
	}
}

func TestClocksCountByOne(t *testing.T) { // P16.3: whatever ages came ahead of it, and whatever the cold ages are
	for n := api.MinNodes; n <= api.MaxNodes; n++ {
		for run := range 60 {
			r := rand.New(rand.NewSource(int64(1000*n + run)))
			b := newBoth(t, n)
			for range 2*n + r.Intn(4*n) {
				// By hand: ages of all sizes, far apart, near each other, or the same.
				b.step(t, []int64{-1, r.Int63n(30), 100 + r.Int63n(1+int64(run)), r.Int63n(most / 2)}[r.Intn(4)], r.Int63n(1000))
			}
			countsOn(t, b, func(int) int64 { return anyAge(r) })
		}
	}
}

func TestClocksCountByOneFromOneAgeOn(t *testing.T) { // P16.3: where all but one of 2N ticks had no age at all, nor have one by now
	for n := api.MinNodes; n <= api.MaxNodes; n++ {
		for at := range 2 * n {
			b := newBoth(t, n)
			for tick := range 2 * n {
				cold := int64(-1)
				if tick == at {
					cold = 77
				}
				b.step(t, -1, cold)
			}
			countsOn(t, b, func(int) int64 { return -1 })
		}
	}
}

func TestClocksCountFromColdOn(t *testing.T) { // P16.3: as a node does that is told what it told itself: it shows how many ticks there were
	for n := api.MinNodes; n <= api.MaxNodes; n++ {
		c, told := newClock(t, n), []int64{}
		for tick := range int64(20 * n) {
			common := int64(-1)
			if at := len(told) - 2*n; at >= 0 {
				common = told[at]
			}
			step(t, c, common, tick, tick, tick)
			told = append(told, tick)
		}
	}
}
