package configs_test

import (
	"math"
	"math/rand"
	"reflect"
	"slices"
	"testing"

	"sennit/api"
	"sennit/configs"
)

// shown: the config of the document's examples.
func shown() api.Config {
	return api.Config{Nodes: 4, Pairs: []int{0, 2}, Slots: []int{0, 1, 1}, Long: 120, Boots: []int{0, 0, 0, 0}, Miss: 3, Good: 3, Fresh: 3}
}

// sized: a config of so many nodes that may be; it has as many pairs as go in, and something of each kind.
func sized(nodes int) api.Config {
	c := api.Config{Nodes: nodes, Long: 200, Boots: make([]int, nodes), Miss: 3, Good: 4, Fresh: 5}
	for first := 0; first+1 < nodes; first += 2 {
		c.Slots = append(c.Slots, len(c.Pairs))
		c.Pairs = append(c.Pairs, first)
	}
	for i := range c.Boots {
		c.Boots[i] = 10 * i
	}
	c.Stations = []api.Station{{Node: 0, Safe: 7, Hold: 1}, {Node: nodes - 1, Safe: math.MaxUint32, Hold: 100}}
	return c
}

// sizes: each number of nodes that a config may have.
func sizes() []int {
	out := []int{}
	for n := 4; n <= 16; n++ {
		out = append(out, n)
	}
	return out
}

// samples: configs that may be, small and great ones, and pairs round the ring's end.
func samples() []api.Config {
	out := []api.Config{shown()}
	for _, n := range sizes() {
		out = append(out, sized(n))
		if n > 4 {
			c := sized(n)
			c.Pairs, c.Slots = []int{1, n - 1}, []int{1, 1, 0, 1, 0}
			out = append(out, c)
		}
	}
	full := sized(16)
	full.Slots = []int{7, 6, 5, 4, 3, 2, 1, 0, 0, 0, 0, 1, 7, 7, 3, 3}
	full.Long, full.Stations = 4096, nil
	return append(out, full)
}

// made: the net of a config that may be.
func made(t *testing.T, c api.Config) *configs.Net {
	t.Helper()
	n, e := configs.New(c)
	if e != api.OK || n == nil {
		t.Fatalf("New(%+v) = %v, %d", c, n, e)
	}
	return n
}

// tell fails if New answers another error of a config, or a net beside one.
func tell(t *testing.T, what string, c api.Config, want api.Errno) {
	t.Helper()
	if n, e := configs.New(c); e != want || (n == nil) != (want != api.OK) {
		t.Errorf("%s: New(%+v) = %v, %d, want error %d", what, c, n, e, want)
	}
}

// clone of a config, in memory of its own.
func clone(c api.Config) api.Config {
	c.Pairs, c.Slots, c.Boots, c.Stations = slices.Clone(c.Pairs), slices.Clone(c.Slots), slices.Clone(c.Boots), slices.Clone(c.Stations)
	return c
}

// spoil everything that lists of a config hold, the room behind them included.
func spoil(c api.Config) {
	for _, list := range [][]int{c.Pairs, c.Slots, c.Boots} {
		list = list[:cap(list)]
		for i := range list {
			list[i] = 12345
		}
	}
	for i := range c.Stations[:cap(c.Stations)] {
		c.Stations[:cap(c.Stations)][i] = api.Station{Node: 99, Safe: 99, Hold: -99}
	}
}

// roomy: the same list, with room behind in which a careless append would show.
func roomy[T any](list []T, rest T) []T {
	out := make([]T, len(list), len(list)+20)
	copy(out, list)
	room := out[len(out):cap(out)]
	for i := range room {
		room[i] = rest
	}
	return out
}

// bounds: the error of a number that is to keep within these.
func bounds(x, least, most int) api.Errno {
	if x > most {
		return api.ErrLimit
	}
	if x < least {
		return api.ErrArg
	}
	return api.OK
}

// worded: the error of a config, by the ten rules as the document words them, each asked by itself.
func worded(c api.Config) api.Errno {
	told := []api.Errno{bounds(c.Nodes, 4, 16), bounds(len(c.Pairs), 2, 8)}
	halves, third := map[int]int{}, api.OK
	for i, p := range c.Pairs {
		if p < 0 || p >= c.Nodes || i > 0 && p <= c.Pairs[i-1] {
			third = api.ErrArg
		}
		halves[p]++
		if p == c.Nodes-1 {
			halves[0]++
		} else {
			halves[p+1]++
		}
	}
	for _, times := range halves {
		if times > 1 {
			third = api.ErrArg
		}
	}
	told = append(told, third, bounds(len(c.Slots), 1, 16))
	owners, fifth := map[int]int{}, api.OK
	for _, s := range c.Slots {
		owners[s]++
		if s < 0 || s >= len(c.Pairs) {
			fifth = api.ErrArg
		}
	}
	for p := range c.Pairs {
		if owners[p] == 0 {
			fifth = api.ErrArg
		}
	}
	told = append(told, fifth)
	least := c.Nodes + 116
	if 3*c.Nodes+1 > least {
		least = 3*c.Nodes + 1
	}
	told = append(told, bounds(c.Long, least, 4096))
	if len(c.Boots) != c.Nodes {
		told = append(told, api.ErrArg)
	}
	for _, b := range c.Boots {
		told = append(told, bounds(b, 0, 4096))
	}
	told = append(told, bounds(len(c.Stations), 0, 8))
	for _, s := range c.Stations {
		if s.Node < 0 || s.Node >= c.Nodes {
			told = append(told, api.ErrArg)
		}
		told = append(told, bounds(s.Hold, 1, 100))
	}
	told = append(told, bounds(c.Miss, 1, 100), bounds(c.Good, 1, 100), bounds(c.Fresh, 1, 100))
	for _, e := range told {
		if e != api.OK {
			return e
		}
	}
	return api.OK
}

// change of a config that breaks one rule, whatever else was broken ahead of it.
type change struct {
	what string
	rule int
	want api.Errno
	do   func(c *api.Config)
}

// changes that break a rule of sized(6) each, by what the document asks.
func changes() []change {
	return []change{
		{"3 nodes", 1, api.ErrArg, func(c *api.Config) { c.Nodes = 3 }},
		{"17 nodes", 1, api.ErrLimit, func(c *api.Config) { c.Nodes = 17 }},
		{"no nodes", 1, api.ErrArg, func(c *api.Config) { c.Nodes = 0 }},
		{"nodes below all", 1, api.ErrArg, func(c *api.Config) { c.Nodes = math.MinInt }},
		{"nodes above all", 1, api.ErrLimit, func(c *api.Config) { c.Nodes = math.MaxInt }},
		{"no pairs", 2, api.ErrArg, func(c *api.Config) { c.Pairs = nil }},
		{"1 pair", 2, api.ErrArg, func(c *api.Config) { c.Pairs = c.Pairs[:1] }},
		{"9 pairs", 2, api.ErrLimit, func(c *api.Config) { c.Pairs = append(c.Pairs, 6, 8, 10, 12, 14, 16) }},
		{"a pair below 0", 3, api.ErrArg, func(c *api.Config) { setFirst(c.Pairs, -1) }},
		{"a pair far below 0", 3, api.ErrArg, func(c *api.Config) { setFirst(c.Pairs, math.MinInt) }},
		{"a pair above the nodes", 3, api.ErrArg, func(c *api.Config) { setLast(c.Pairs, 6) }},
		{"a pair far above the nodes", 3, api.ErrArg, func(c *api.Config) { setLast(c.Pairs, math.MaxInt) }},
		{"a pair twice", 3, api.ErrArg, func(c *api.Config) { setLast(c.Pairs, 2) }},
		{"a second half that is a first one", 3, api.ErrArg, func(c *api.Config) { setLast(c.Pairs, 3) }},
		{"a second half, round, that is a first one", 3, api.ErrArg, func(c *api.Config) { setLast(c.Pairs, 5) }},
		{"pairs that fall", 3, api.ErrArg, func(c *api.Config) { slices.Reverse(c.Pairs) }},
		{"no slots", 4, api.ErrArg, func(c *api.Config) { c.Slots = nil }},
		{"17 slots", 4, api.ErrLimit, func(c *api.Config) { c.Slots = append(c.Slots, make([]int, 17-len(c.Slots))...) }},
		{"a slot below 0", 5, api.ErrArg, func(c *api.Config) { c.Slots = append(c.Slots, -1) }},
		{"a slot of no pair", 5, api.ErrArg, func(c *api.Config) { c.Slots = append(c.Slots, 3) }},
		{"a slot of a node", 5, api.ErrArg, func(c *api.Config) { c.Slots = append(c.Slots, 4) }},
		{"a slot far above", 5, api.ErrArg, func(c *api.Config) { c.Slots = append(c.Slots, math.MaxInt) }},
		{"a slot far below", 5, api.ErrArg, func(c *api.Config) { c.Slots = append(c.Slots, math.MinInt) }},
		{"a pair without a slot", 5, api.ErrArg, func(c *api.Config) { setLast(c.Slots, 0) }},
		{"slots that are too short", 6, api.ErrArg, func(c *api.Config) { c.Long = 121 }},
		{"slots of no tick", 6, api.ErrArg, func(c *api.Config) { c.Long = 0 }},
		{"slots far too short", 6, api.ErrArg, func(c *api.Config) { c.Long = math.MinInt }},
		{"slots that are too long", 6, api.ErrLimit, func(c *api.Config) { c.Long = 4097 }},
		{"slots far too long", 6, api.ErrLimit, func(c *api.Config) { c.Long = math.MaxInt }},
		{"no boots", 7, api.ErrArg, func(c *api.Config) { c.Boots = nil }},
		{"a boot too few", 7, api.ErrArg, func(c *api.Config) { c.Boots = c.Boots[1:] }},
		{"a boot too many", 7, api.ErrArg, func(c *api.Config) { c.Boots = append(c.Boots, 0) }},
		{"a boot below 0", 7, api.ErrArg, func(c *api.Config) { setFirst(c.Boots, -1) }},
		{"the last boot below 0", 7, api.ErrArg, func(c *api.Config) { setLast(c.Boots, -1) }},
		{"a boot that is too long", 7, api.ErrLimit, func(c *api.Config) { setFirst(c.Boots, 4097) }},
		{"the last boot too long", 7, api.ErrLimit, func(c *api.Config) { setLast(c.Boots, 4097) }},
		{"9 stations", 8, api.ErrLimit, func(c *api.Config) { c.Stations = append(c.Stations, stations(7)...) }},
		{"a station below 0", 9, api.ErrArg, func(c *api.Config) { c.Stations[0].Node = -1 }},
		{"a station above the nodes", 9, api.ErrArg, func(c *api.Config) { c.Stations[1].Node = 6 }},
		{"a station that holds nothing", 9, api.ErrArg, func(c *api.Config) { c.Stations[0].Hold = 0 }},
		{"the last station holds too long", 9, api.ErrLimit, func(c *api.Config) { c.Stations[1].Hold = 101 }},
		{"no miss", 10, api.ErrArg, func(c *api.Config) { c.Miss = 0 }},
		{"a miss too many", 10, api.ErrLimit, func(c *api.Config) { c.Miss = 101 }},
		{"no good", 10, api.ErrArg, func(c *api.Config) { c.Good = 0 }},
		{"a good too many", 10, api.ErrLimit, func(c *api.Config) { c.Good = 101 }},
		{"nothing fresh", 10, api.ErrArg, func(c *api.Config) { c.Fresh = 0 }},
		{"too much fresh", 10, api.ErrLimit, func(c *api.Config) { c.Fresh = 101 }},
	}
}

// setFirst and setLast change a list that has items; of one that has none there is nothing to change.
func setFirst(list []int, x int) {
	if len(list) > 0 {
		list[0] = x
	}
}

func setLast(list []int, x int) {
	if len(list) > 0 {
		list[len(list)-1] = x
	}
}

// stations: so many that may be.
func stations(many int) []api.Station {
	out := make([]api.Station, many)
	for i := range out {
		out[i] = api.Station{Node: i % 4, Safe: uint32(i), Hold: 1}
	}
	return out
}

func TestNewAsTheDocumentHasIt(t *testing.T) { // P4.1: its examples
	tell(t, "C", shown(), api.OK)
	c := shown()
	c.Long = 119
	tell(t, "Long 119", c, api.ErrArg)
	c = shown()
	c.Nodes = 17
	tell(t, "17 nodes", c, api.ErrLimit)
	c = shown()
	c.Pairs = []int{0, 1}
	tell(t, "pairs 0, 1", c, api.ErrArg)
	c = shown()
	c.Pairs = []int{0, 3}
	tell(t, "pairs 0, 3", c, api.ErrArg)
}

func TestNewTellsEachRuleThatIsBroken(t *testing.T) { // P4.1: each rule broken alone
	tell(t, "sized(6)", sized(6), api.OK)
	seen := map[int]int{}
	for _, x := range changes() {
		c := sized(6)
		x.do(&c)
		tell(t, x.what, c, x.want)
		seen[x.rule]++
	}
	for rule := 1; rule <= 10; rule++ {
		if seen[rule] == 0 {
			t.Errorf("rule %d is not broken by any", rule)
		}
	}
}

func TestNewTellsTheFirstRuleThatIsBroken(t *testing.T) { // P4.1, R2: two broken at once
	for _, x := range changes() {
		for _, y := range changes() {
			if x.rule >= y.rule {
				continue
			}
			c := sized(6)
			x.do(&c)
			y.do(&c)
			tell(t, x.what+", "+y.what, c, x.want)
		}
	}
}

func TestNewTellsTheFirstErrorWithinARule(t *testing.T) { // P4.1: boots, stations and counts in order
	for _, x := range []struct {
		what string
		want api.Errno
		do   func(c *api.Config)
	}{
		{"boots below, then above", api.ErrArg, func(c *api.Config) { c.Boots[1], c.Boots[2] = -1, 4097 }},
		{"boots above, then below", api.ErrLimit, func(c *api.Config) { c.Boots[1], c.Boots[2] = 4097, -1 }},
		{"too many boots ahead of what they are", api.ErrArg, func(c *api.Config) { c.Boots = append(c.Boots, 4097); c.Boots[0] = 4097 }},
		{"too few boots ahead of what they are", api.ErrArg, func(c *api.Config) { c.Boots = c.Boots[1:]; c.Boots[0] = 4097 }},
		{"stations below, then above", api.ErrArg, func(c *api.Config) { c.Stations[0].Hold, c.Stations[1].Hold = 0, 101 }},
		{"stations above, then below", api.ErrLimit, func(c *api.Config) { c.Stations[0].Hold, c.Stations[1].Hold = 101, 0 }},
		{"a station's hold ahead of the next one's node", api.ErrLimit, func(c *api.Config) { c.Stations[0].Hold, c.Stations[1].Node = 101, -1 }},
		{"a station's node ahead of its hold", api.ErrArg, func(c *api.Config) { c.Stations[0].Node, c.Stations[0].Hold = 6, 101 }},
		{"miss below, good above", api.ErrArg, func(c *api.Config) { c.Miss, c.Good = 0, 101 }},
		{"miss above, good below", api.ErrLimit, func(c *api.Config) { c.Miss, c.Good = 101, 0 }},
		{"miss above, fresh below", api.ErrLimit, func(c *api.Config) { c.Miss, c.Fresh = 101, 0 }},
		{"good below, fresh above", api.ErrArg, func(c *api.Config) { c.Good, c.Fresh = 0, 101 }},
		{"good above, fresh below", api.ErrLimit, func(c *api.Config) { c.Good, c.Fresh = 101, 0 }},
	} {
		c := sized(6)
		x.do(&c)
		tell(t, x.what, c, x.want)
	}
}

func TestNewOfNothing(t *testing.T) { // P4.1: a config of which nothing is there
	tell(t, "nothing", api.Config{}, api.ErrArg)
	tell(t, "nodes alone", api.Config{Nodes: 4}, api.ErrArg)
}

func TestNodesHaveBounds(t *testing.T) { // P4.1, rule 1: no other number than 4 to 16
	for _, n := range sizes() {
		tell(t, "nodes", sized(n), api.OK)
	}
	for n := -5; n < 4; n++ {
		c := shown()
		c.Nodes = n
		tell(t, "too few nodes", c, api.ErrArg)
	}
	for n := 17; n < 40; n++ {
		c := sized(16)
		c.Nodes, c.Boots = n, make([]int, n)
		tell(t, "too many nodes", c, api.ErrLimit)
	}
}

func TestPairsHaveBounds(t *testing.T) { // P4.1, rule 2: 2 to 8, whatever goes into the ring
	for pairs := range 12 {
		c := sized(16)
		c.Pairs, c.Slots = nil, nil
		for p := range pairs {
			c.Pairs, c.Slots = append(c.Pairs, 2*p), append(c.Slots, p)
		}
		want := api.OK
		switch {
		case pairs < 2:
			want = api.ErrArg
		case pairs > 8:
			want = api.ErrLimit
		}
		tell(t, "pairs", c, want)
	}
}

func TestSlotsHaveBounds(t *testing.T) { // P4.1, rules 4 and 5: up to 16, and each pair has one
	for slots := range 20 {
		c := shown()
		c.Slots = make([]int, slots)
		setLast(c.Slots, 1)
		want := api.OK
		switch {
		case slots < 2:
			want = api.ErrArg
		case slots > 16:
			want = api.ErrLimit
		}
		tell(t, "slots", c, want)
	}
}

func TestLongHasBounds(t *testing.T) { // P4.1, rule 6: the least hangs on the nodes
	for _, n := range sizes() {
		least := max(3*n+1, n+api.FrameLong+2)
		for _, x := range []struct {
			long int
			want api.Errno
		}{
			{-1, api.ErrArg}, {0, api.ErrArg}, {3 * n, api.ErrArg}, {3*n + 1, api.ErrArg}, {114, api.ErrArg}, {n + 114, api.ErrArg},
			{least - 1, api.ErrArg}, {least, api.OK}, {least + 1, api.OK}, {4095, api.OK}, {4096, api.OK}, {4097, api.ErrLimit},
		} {
			c := sized(n)
			c.Long = x.long
			tell(t, "long", c, x.want)
		}
	}
}

func TestBootsHaveBounds(t *testing.T) { // P4.1, rule 7: as many as nodes, each 0 to 4096
	for _, n := range sizes() {
		for many := range 20 {
			c := sized(n)
			c.Boots = make([]int, many)
			want := api.ErrArg
			if many == n {
				want = api.OK
			}
			tell(t, "how many boots", c, want)
		}
		for i := range n {
			for _, x := range []struct {
				boot int
				want api.Errno
			}{{math.MinInt, api.ErrArg}, {-1, api.ErrArg}, {0, api.OK}, {1, api.OK}, {4095, api.OK}, {4096, api.OK}, {4097, api.ErrLimit}, {math.MaxInt, api.ErrLimit}} {
				c := sized(n)
				c.Boots[i] = x.boot
				tell(t, "a boot", c, x.want)
			}
		}
	}
}

func TestStationsHaveBounds(t *testing.T) { // P4.1, rules 8 and 9
	c := shown()
	for many := 9; many < 12; many++ {
		c.Stations = stations(many)
		tell(t, "too many stations", c, api.ErrLimit)
	}
	for many := range 9 {
		c.Stations = stations(many)
		tell(t, "stations", c, api.OK)
		for i := range many {
			for _, x := range []struct {
				node, hold int
				want       api.Errno
			}{
				{-1, 1, api.ErrArg}, {0, 1, api.OK}, {3, 1, api.OK}, {4, 1, api.ErrArg}, {math.MinInt, 1, api.ErrArg}, {math.MaxInt, 1, api.ErrArg},
				{1, -1, api.ErrArg}, {1, 0, api.ErrArg}, {1, 2, api.OK}, {1, 99, api.OK}, {1, 100, api.OK}, {1, 101, api.ErrLimit}, {1, math.MaxInt, api.ErrLimit},
			} {
				c.Stations = stations(many)
				c.Stations[i].Node, c.Stations[i].Hold = x.node, x.hold
				tell(t, "a station", c, x.want)
			}
		}
	}
}

func TestCountsHaveBounds(t *testing.T) { // P4.1, rule 10
	for which := range 3 {
		for _, x := range []struct {
			count int
			want  api.Errno
		}{{math.MinInt, api.ErrArg}, {-1, api.ErrArg}, {0, api.ErrArg}, {1, api.OK}, {2, api.OK}, {99, api.OK}, {100, api.OK}, {101, api.ErrLimit}, {math.MaxInt, api.ErrLimit}} {
			c := shown()
			*[]*int{&c.Miss, &c.Good, &c.Fresh}[which] = x.count
			tell(t, "a count", c, x.want)
		}
	}
}

func TestPairsAreAsTheyAreWorded(t *testing.T) { // P4.1, rule 3: all lists of two, and of three, some of them of no node
	for n := 4; n <= 7; n++ {
		for a := -1; a <= n; a++ {
			for b := -1; b <= n; b++ {
				c := sized(n)
				c.Pairs, c.Slots = []int{a, b}, []int{1, 0}
				tell(t, "two pairs", c, worded(c))
				for d := -1; d <= n; d++ {
					c.Pairs, c.Slots = []int{a, b, d}, []int{1, 2, 0}
					tell(t, "three pairs", c, worded(c))
				}
			}
		}
	}
}

func TestPairsRoundTheRingsEnd(t *testing.T) { // P4.1, P4.2: the last node's pair has node 0
	for _, n := range sizes() {
		c := sized(n)
		c.Slots = []int{0, 1}
		c.Pairs = []int{0, n - 1}
		tell(t, "0 is in both", c, api.ErrArg)
		c.Pairs = []int{n - 2, n - 1}
		tell(t, "the last one is in both", c, api.ErrArg)
		c.Pairs = []int{1, n - 1}
		net := made(t, c)
		for _, x := range [][3]int{{0, 1, n - 1}, {1, 0, 2}, {2, 0, 1}, {n - 1, 1, 0}} {
			if pair, partner := net.Pair(x[0]), net.Partner(x[0]); pair != x[1] || partner != x[2] {
				t.Errorf("of %d nodes: node %d: pair %d, partner %d, want %v", n, x[0], pair, partner, x)
			}
		}
	}
}

// wild: a config near one that may be, by a source of numbers that is the same in each run.
func wild(r *rand.Rand) api.Config {
	c := clone(samples()[r.Intn(len(samples()))])
	for range r.Intn(4) {
		odd := []int{math.MinInt, -1, 0, 1, 2, 3, 4, 15, 16, 17, 100, 101, 119, 120, 132, 4096, 4097, math.MaxInt}[r.Intn(18)]
		switch r.Intn(12) {
		case 0:
			c.Nodes = odd
		case 1:
			c.Pairs[r.Intn(len(c.Pairs))] = odd
		case 2:
			c.Pairs = append(c.Pairs, odd)
		case 3:
			c.Slots[r.Intn(len(c.Slots))] = odd
		case 4:
			c.Slots = append(c.Slots, odd)
		case 5:
			c.Long = odd
		case 6:
			c.Boots[r.Intn(len(c.Boots))] = odd
		case 7:
			c.Boots = append(c.Boots, odd)
		case 8:
			c.Stations = append(c.Stations, api.Station{Node: odd, Hold: 1})
		case 9:
			c.Stations = append(c.Stations, api.Station{Node: 1, Hold: odd})
		case 10:
			c.Stations = stations(7 + r.Intn(4))
		case 11:
			*[]*int{&c.Miss, &c.Good, &c.Fresh}[r.Intn(3)] = odd
		}
	}
	return c
}

func TestNewIsAsItIsWorded(t *testing.T) { // P4.1: many configs against the rules as the document words them
	r := rand.New(rand.NewSource(4))
	seen := map[api.Errno]int{}
	for range 30000 {
		c := wild(r)
		want := worded(c)
		tell(t, "wild", c, want)
		seen[want]++
	}
	if len(seen) != 3 || seen[api.OK] < 1000 {
		t.Errorf("too few of a kind: %v", seen)
	}
}

func TestRoundOwnerFirst(t *testing.T) { // P4.2
	n := made(t, shown())
	if n.Round() != 360 || n.Owner(2) != 1 {
		t.Errorf("of C: Round %d, Owner(2) %d", n.Round(), n.Owner(2))
	}
	for _, c := range samples() {
		n := made(t, c)
		if got, want := n.Round(), int64(len(c.Slots)*c.Long); got != want {
			t.Errorf("%+v: Round() = %d, want %d", c, got, want)
		}
		for slot, pair := range c.Slots {
			if got := n.Owner(slot); got != pair {
				t.Errorf("%+v: Owner(%d) = %d, want %d", c, slot, got, pair)
			}
		}
		for pair, first := range c.Pairs {
			if got := n.First(pair); got != first {
				t.Errorf("%+v: First(%d) = %d, want %d", c, pair, got, first)
			}
		}
		for _, x := range []int{math.MinInt, -2, -1} {
			if n.Owner(x) != -1 || n.First(x) != -1 {
				t.Errorf("%+v: Owner(%d) = %d, First = %d, want -1", c, x, n.Owner(x), n.First(x))
			}
		}
		for _, more := range []int{0, 1, 2, 15, math.MaxInt - 16} {
			if got := n.Owner(len(c.Slots) + more); got != -1 {
				t.Errorf("%+v: Owner(%d behind) = %d, want -1", c, more, got)
			}
			if got := n.First(len(c.Pairs) + more); got != -1 {
				t.Errorf("%+v: First(%d behind) = %d, want -1", c, more, got)
			}
		}
	}
}

func TestPairAndPartner(t *testing.T) { // P4.2
	n := made(t, shown())
	if n.Pair(3) != 1 || n.Partner(3) != 2 {
		t.Errorf("of C: Pair(3) %d, Partner(3) %d", n.Pair(3), n.Partner(3))
	}
	for _, c := range samples() {
		n := made(t, c)
		pair, partner := map[int]int{}, map[int]int{}
		for p, first := range c.Pairs {
			second := (first + 1) % c.Nodes
			pair[first], pair[second], partner[first], partner[second] = p, p, second, first
		}
		for _, node := range append([]int{math.MinInt, -2, -1, math.MaxInt}, upTo(2*c.Nodes)...) {
			wantPair, wantPartner := -1, -1
			if p, ok := pair[node]; ok {
				wantPair, wantPartner = p, partner[node]
			}
			if n.Pair(node) != wantPair || n.Partner(node) != wantPartner {
				t.Errorf("%+v: node %d: Pair %d, Partner %d, want %d, %d", c, node, n.Pair(node), n.Partner(node), wantPair, wantPartner)
			}
		}
	}
}

// upTo: the numbers below that one.
func upTo(n int) []int {
	out := []int{}
	for i := range n {
		out = append(out, i)
	}
	return out
}

func TestNextAsTheDocumentHasIt(t *testing.T) { // P4.3
	n := made(t, shown())
	for _, x := range []struct {
		slot int64
		pair int
		want int64
	}{
		{3, 1, 4}, {0, 0, 0}, {0, 1, 1}, {1, 0, 3}, {1, 1, 1}, {2, 1, 2}, {3, 0, 3}, {2, 0, 3},
		{300, 0, 300}, {301, 0, 303}, {299, 0, 300}, {300, 1, 301},
		// 2^40 is 1 more than a multiple of 3.
		{1<<40 - 1, 0, 1<<40 - 1}, {1 << 40, 0, 1<<40 + 2}, {1 << 40, 1, 1 << 40},
		{1<<40 + 1, 0, -1}, {1<<40 + 1, 1, -1}, {1<<40 + 2, 0, -1}, {math.MaxInt64, 0, -1}, {math.MaxInt64, 1, -1},
		{-1, 0, -1}, {-1, 1, -1}, {-3, 0, -1}, {math.MinInt64, 0, -1}, {math.MinInt64, 1, -1},
		{0, 2, -1}, {0, -1, -1}, {5, math.MaxInt, -1}, {5, math.MinInt, -1}, {-1, -1, -1},
	} {
		if got := n.Next(x.slot, x.pair); got != x.want {
			t.Errorf("Next(%d, %d) = %d, want %d", x.slot, x.pair, got, x.want)
		}
	}
}

func TestNextIsTheFirstFromThereOn(t *testing.T) { // P4.3: slot by slot, counted from 0 on
	for _, c := range samples() {
		n := made(t, c)
		for _, from := range []int64{0, 1000, math.MaxInt32 - 3, api.MaxAge - 40} {
			for more := range int64(41) {
				for pair := -2; pair < 10; pair++ {
					want := from + more
					for slices.Contains(c.Slots, pair) && c.Slots[want%int64(len(c.Slots))] != pair {
						want++
					}
					if !slices.Contains(c.Slots, pair) {
						want = -1
					}
					if got := n.Next(from+more, pair); got != want {
						t.Errorf("%+v: Next(%d, %d) = %d, want %d", c, from+more, pair, got, want)
					}
				}
			}
		}
	}
}

func TestGiven(t *testing.T) { // P4.1, P4.3: the config, of which the net embeds one as well
	for _, c := range samples() {
		n := made(t, c)
		if got := n.Given(); !reflect.DeepEqual(got, c) {
			t.Errorf("Given() = %+v, want %+v", got, c)
		}
		if !reflect.DeepEqual(n.Config, c) || n.Nodes != c.Nodes || n.Long != c.Long || n.Miss != c.Miss {
			t.Errorf("Config = %+v, want %+v", n.Config, c)
		}
		tell(t, "given", n.Given(), api.OK)
	}
}

func TestOfNoNet(t *testing.T) { // P4.2, P4.3, R3: one that is not there, or that no call made
	refused, _ := configs.New(api.Config{})
	for what, n := range map[string]*configs.Net{
		"nil":                nil,
		"refused":            refused,
		"empty":              {},
		"a config put in":    {Config: shown()},
		"a great one put in": {Config: sized(16)},
	} {
		if got := n.Round(); got != 0 {
			t.Errorf("%s: Round() = %d", what, got)
		}
		for _, x := range []int{math.MinInt, -1, 0, 1, 2, 3, 15, math.MaxInt} {
			if n.Owner(x) != -1 || n.First(x) != -1 || n.Pair(x) != -1 || n.Partner(x) != -1 {
				t.Errorf("%s: of %d: %d, %d, %d, %d, want -1", what, x, n.Owner(x), n.First(x), n.Pair(x), n.Partner(x))
			}
			for _, slot := range []int64{math.MinInt64, -1, 0, 1, 1000, api.MaxAge, api.MaxAge + 1, math.MaxInt64} {
				if got := n.Next(slot, x); got != -1 {
					t.Errorf("%s: Next(%d, %d) = %d, want -1", what, slot, x, got)
				}
			}
		}
		if got := n.Given(); !reflect.DeepEqual(got, api.Config{}) {
			t.Errorf("%s: Given() = %+v", what, got)
		}
	}
}

func TestWhatFollows(t *testing.T) { // P4.4: owners are pairs; partners are each other's, and neighbours
	for _, c := range samples() {
		n := made(t, c)
		halves := 0
		for slot := range c.Slots {
			if first := n.First(n.Owner(slot)); first < 0 || n.Pair(first) != n.Owner(slot) {
				t.Errorf("%+v: slot %d is owned by %d", c, slot, n.Owner(slot))
			}
		}
		for node := range c.Nodes {
			partner := n.Partner(node)
			if partner < 0 {
				continue
			}
			halves++
			apart := (partner - node + c.Nodes) % c.Nodes
			if n.Partner(partner) != node || n.Pair(partner) != n.Pair(node) || apart != 1 && apart != c.Nodes-1 {
				t.Errorf("%+v: node %d has partner %d, which has %d", c, node, partner, n.Partner(partner))
			}
		}
		if halves != 2*len(c.Pairs) {
			t.Errorf("%+v: %d halves", c, halves)
		}
	}
}

// turned: a config whose pairs stand so many nodes on, in order again, and its slots by their new places.
func turned(c api.Config, steps int) api.Config {
	c = clone(c)
	was := slices.Clone(c.Pairs)
	for i := range c.Pairs {
		c.Pairs[i] = (c.Pairs[i] + steps) % c.Nodes
	}
	slices.Sort(c.Pairs)
	for i, pair := range c.Slots {
		c.Slots[i] = slices.Index(c.Pairs, (was[pair]+steps)%c.Nodes)
	}
	return c
}

func TestTurnedRoundTheRing(t *testing.T) { // P4.4: each choice of nodes as pairs, each turn
	for n := 4; n <= 9; n++ {
		for set := range 1 << n {
			c := sized(n)
			c.Pairs, c.Slots = nil, nil
			for node := range n {
				if set>>node&1 == 1 {
					c.Slots = append(c.Slots, len(c.Pairs))
					c.Pairs = append(c.Pairs, node)
				}
			}
			net, may := configs.New(c)
			for steps := range n {
				other, might := configs.New(turned(c, steps))
				if (may == api.OK) != (might == api.OK) {
					t.Errorf("%v of %d nodes: %d; turned by %d: %d", c.Pairs, n, may, steps, might)
				}
				for slot := range c.Slots {
					if may != api.OK || might != api.OK {
						break
					}
					if got, want := other.First(other.Owner(slot)), (net.First(net.Owner(slot))+steps)%n; got != want {
						t.Errorf("%v of %d nodes, turned by %d: slot %d is %d's, want %d's", c.Pairs, n, steps, slot, got, want)
					}
				}
			}
		}
	}
}

func TestWhatIsHandedInStays(t *testing.T) { // R1, of P4.1: its lists, and the room behind them
	for _, c := range samples() {
		in := c
		in.Pairs, in.Slots, in.Boots = roomy(c.Pairs, 77), roomy(c.Slots, 77), roomy(c.Boots, 77)
		in.Stations = roomy(c.Stations, api.Station{Safe: 77})
		n := made(t, in)
		spoil(n.Config)
		spoil(n.Given())
		n.Next(1, 1)
		for i, list := range [][]int{in.Pairs, in.Slots, in.Boots} {
			if !slices.Equal(list, [][]int{c.Pairs, c.Slots, c.Boots}[i]) || slices.ContainsFunc(list[len(list):cap(list)], func(x int) bool { return x != 77 }) {
				t.Errorf("%+v: list %d was changed: %v", c, i, list[:cap(list)])
			}
		}
		room := in.Stations[len(in.Stations):cap(in.Stations)]
		if !slices.Equal(in.Stations, c.Stations) || slices.ContainsFunc(room, func(x api.Station) bool { return x != api.Station{Safe: 77} }) {
			t.Errorf("%+v: stations were changed: %v", c, in.Stations)
		}
	}
}

// answers of a net, all of them.
func answers(n *configs.Net) []int64 {
	out := []int64{n.Round()}
	for x := -2; x < 20; x++ {
		out = append(out, int64(n.Owner(x)), int64(n.First(x)), int64(n.Pair(x)), int64(n.Partner(x)))
		for slot := range int64(20) {
			out = append(out, n.Next(slot, x))
		}
	}
	return out
}

func TestNetIsItsOwn(t *testing.T) { // R1, R4, R5: whatever is done later to what was handed in or answered
	for _, c := range samples() {
		in := clone(c)
		n, beside := made(t, in), made(t, in)
		was := answers(n)
		same := func(what string) {
			t.Helper()
			if !slices.Equal(answers(n), was) || !reflect.DeepEqual(n.Given(), c) {
				t.Errorf("%+v: %s changed the net: %+v", c, what, n.Given())
			}
		}
		spoil(in)
		same("what was handed in")
		first, second := n.Given(), n.Given()
		spoil(first)
		if !reflect.DeepEqual(second, c) || !reflect.DeepEqual(n.Config, c) {
			t.Errorf("%+v: an answer changed another one: %+v, %+v", c, second, n.Config)
		}
		same("an answer")
		spoil(beside.Config)
		beside.Nodes, beside.Long = 1, 1
		if !reflect.DeepEqual(n.Config, c) {
			t.Errorf("%+v: another net changed this one: %+v", c, n.Config)
		}
		same("another net")
		spoil(n.Config)
		same("what the net's config holds")
		n.Config = api.Config{}
		same("the net's config emptied")
	}
}

func TestNothingBehind(t *testing.T) { // R4: no room behind lists, whatever room was behind those handed in
	for _, c := range samples() {
		for many := range 9 {
			in := clone(c)
			in.Stations = roomy(stations(many), api.Station{})
			in.Pairs, in.Slots, in.Boots = roomy(c.Pairs, 7), roomy(c.Slots, 7), roomy(c.Boots, 7)
			n := made(t, in)
			for _, out := range []api.Config{n.Config, n.Given()} {
				for i, list := range [][]int{out.Pairs, out.Slots, out.Boots} {
					if cap(list) != len(list) {
						t.Errorf("%+v: list %d: len %d, cap %d", c, i, len(list), cap(list))
					}
				}
				if cap(out.Stations) != len(out.Stations) {
					t.Errorf("%+v: stations: len %d, cap %d", c, len(out.Stations), cap(out.Stations))
				}
			}
		}
	}
}

func TestListsOfOneAnswerShareNothing(t *testing.T) { // R4: even where those handed in are one
	all := []int{0, 2, 1, 0}
	c := shown()
	c.Pairs, c.Slots, c.Boots = all[:2], all[2:], all
	n := made(t, c)
	for _, out := range []api.Config{n.Config, n.Given()} {
		out.Pairs[1], out.Slots[1] = 88, 99
		if !slices.Equal(out.Boots, all) || !slices.Equal(out.Pairs, []int{0, 88}) || !slices.Equal(out.Slots, []int{1, 99}) {
			t.Errorf("lists share memory: %+v", out)
		}
	}
}
