package windows_test

import (
	"math"
	"math/rand"
	"strconv"
	"testing"

	"sennit/api"
	"sennit/configs"
	"sennit/windows"
	"sennit/wires"
)

// ringed: a config of so many nodes, with these pairs, each of which has one slot of so many ticks.
func ringed(nodes, long int, pairs ...int) api.Config {
	c := api.Config{Nodes: nodes, Pairs: pairs, Long: long, Boots: make([]int, nodes), Miss: 3, Good: 3, Fresh: 3}
	for pair := range pairs {
		c.Slots = append(c.Slots, pair)
	}
	return c
}

// made: the net of a config that may be.
func made(t *testing.T, c api.Config) *configs.Net {
	t.Helper()
	n, e := configs.New(c)
	if n == nil || e != api.OK {
		t.Fatalf("New(%+v) = %v, %d", c, n, e)
	}
	return n
}

// shortest: the fewest ticks that a slot may have, as chapter 4 words it (3 x 16 + 1 is never the greater one).
func shortest(nodes int) int { return nodes + 114 + 2 }

// samples: of each number of nodes the fewest pairs and the most, some of them round the ring's end, in the shortest slots, longer ones and the longest.
func samples() []api.Config {
	out := []api.Config{}
	for nodes := 4; nodes <= 16; nodes++ {
		most, turned := []int{}, []int{}
		for first := 0; first+1 < nodes; first += 2 {
			most = append(most, first)
			turned = append(turned, first+1)
		}
		out = append(out, ringed(nodes, shortest(nodes), most...), ringed(nodes, 4096, most...))
		out = append(out, ringed(nodes, shortest(nodes)+1, 0, nodes-2), ringed(nodes, 200, 1, nodes-1))
		if nodes%2 == 0 {
			out = append(out, ringed(nodes, shortest(nodes), turned...))
		}
		slots := ringed(nodes, shortest(nodes), most...)
		slots.Slots = append(slots.Slots, 1, 0, 0)
		out = append(out, slots)
	}
	return out
}

// nearby: samples of slots that are short, for tests that go on tick by tick.
func nearby() []api.Config {
	out := []api.Config{}
	for _, c := range samples() {
		if c.Long <= 200 {
			out = append(out, c)
		}
	}
	return out
}

func dirs() []api.Dir { return []api.Dir{api.DrCw, api.DrCcw} }

// noDirs: there are two alone.
func noDirs() []api.Dir { return []api.Dir{2, 3, 4, 127, 128, 254, 255} }

// beyond: numbers of which there is none, where there are so many: the last one's next, and others around, ones that would wrap round among them.
func beyond(many int) []int {
	return []int{-1, many, many + 1, -2, -many, -many - 1, 2 * many, 100, 255, 256, 1 << 32, 1<<32 + 1, -1 << 32, math.MaxInt, math.MaxInt - 1, math.MinInt, math.MinInt + 1}
}

// noNets: nothing, and nets that no call made.
func noNets() map[string]*configs.Net {
	return map[string]*configs.Net{
		"nil":      nil,
		"empty":    {},
		"by hand":  {Config: ringed(4, 120, 0, 2)},
		"of nodes": {Config: api.Config{Nodes: 6}},
	}
}

// on: the next node in a direction, round.
func on(nodes int, d api.Dir, node int) int {
	switch {
	case d == api.DrCw && node == nodes-1:
		return 0
	case d == api.DrCw:
		return node + 1
	case node == 0:
		return nodes - 1
	}
	return node - 1
}

// back: the node from which one step in a direction leads to another one.
func back(nodes int, d api.Dir, node int) int { return on(nodes, 1-d, node) }

// worded: a node's window, as the document words it: its place is counted step by step, from the first half clockwise, from the second one the other way.
func worded(c api.Config, d api.Dir, owner, node int) windows.Window {
	at := c.Pairs[owner]
	if d == api.DrCcw {
		at = on(c.Nodes, api.DrCw, at)
	}
	place := 0
	for at != node {
		at = on(c.Nodes, d, at)
		place++
	}
	role := windows.RoRelay
	if place == 0 || place == 1 {
		role = windows.RoHalf
	} else if place == 2 {
		role = windows.RoGuard
	}
	return windows.Window{Role: role, Place: place, Begin: 1 + place, End: 1 + place + 114}
}

// of: a window that there is.
func of(t *testing.T, n *configs.Net, d api.Dir, owner, node int) windows.Window {
	t.Helper()
	w, e := windows.Of(n, d, owner, node)
	if e != api.OK {
		t.Fatalf("Of(%d, %d, %d) = %v, %d", d, owner, node, w, e)
	}
	return w
}

// refuse fails if Of answers another error, or a window beside it.
func refuse(t *testing.T, n *configs.Net, d api.Dir, owner, node int, want api.Errno) {
	t.Helper()
	if w, e := windows.Of(n, d, owner, node); w != (windows.Window{}) || e != want {
		t.Errorf("Of(%d, %d, %d) = %v, %d, want error %d alone", d, owner, node, w, e, want)
	}
}

// at fails if At answers otherwise, or Pass lets a symbol through where that is closed, or holds it where it is open.
func at(t *testing.T, w windows.Window, place, i int, open bool) {
	t.Helper()
	if got, ok := w.At(place); got != i || ok != open {
		t.Errorf("%v.At(%d) = %d, %v, want %d, %v", w, place, got, ok, i, open)
	}
	pass(t, w, place, open)
}

// pass fails if Pass is otherwise for any symbol there may be, none and those that are not whole included.
func pass(t *testing.T, w windows.Window, place int, open bool) {
	t.Helper()
	for x := range 256 {
		want := api.SyNone
		if open {
			want = api.Sym(x)
		}
		if got := w.Pass(place, api.Sym(x)); got != want {
			t.Errorf("%v.Pass(%d, %d) = %d, want %d", w, place, x, got, want)
		}
	}
}

// guards fails if Guards answers others.
func guards(t *testing.T, n *configs.Net, owner, cw, ccw int) {
	t.Helper()
	if a, b := windows.Guards(n, owner); a != cw || b != ccw {
		t.Errorf("Guards(%d) = %d, %d, want %d, %d", owner, a, b, cw, ccw)
	}
}

// over fails if Over answers another place.
func over(t *testing.T, n *configs.Net, want int) {
	t.Helper()
	if got := windows.Over(n); got != want {
		t.Errorf("Over = %d, want %d", got, want)
	}
}

// each calls f for each direction, owner and node of a config.
func each(c api.Config, f func(d api.Dir, owner, node int)) {
	for _, d := range dirs() {
		for owner := range c.Pairs {
			for node := range c.Nodes {
				f(d, owner, node)
			}
		}
	}
}

func TestAsTheDocumentHasIt(t *testing.T) { // P10.1, P10.3: its examples
	n := made(t, ringed(4, 120, 0, 2))
	if w := of(t, n, api.DrCw, 0, 3); w != (windows.Window{Role: windows.RoRelay, Place: 3, Begin: 4, End: 118}) {
		t.Error(w)
	}
	if w := of(t, n, api.DrCcw, 0, 3); w != (windows.Window{Role: windows.RoGuard, Place: 2, Begin: 3, End: 117}) {
		t.Error(w)
	}
	guards(t, n, 0, 2, 3)
	over(t, n, 118)
}

func TestRolesHaveTheirNumbers(t *testing.T) { // P10.1: as the chapter's types tell them
	for want, r := range []windows.Role{windows.RoNone, windows.RoHalf, windows.RoGuard, windows.RoRelay} {
		if int(r) != want {
			t.Errorf("role %d is %d", want, r)
		}
	}
}

func TestWindowsAreAsTheyAreWorded(t *testing.T) { // P10.1: each node of each ring, both ways, of each owner
	for _, c := range samples() {
		n := made(t, c)
		each(c, func(d api.Dir, owner, node int) {
			if got, want := of(t, n, d, owner, node), worded(c, d, owner, node); got != want {
				t.Errorf("%d nodes, pairs %v: Of(%d, %d, %d) = %v, want %v", c.Nodes, c.Pairs, d, owner, node, got, want)
			}
		})
	}
}

func TestWindowsOfThePlaces(t *testing.T) { // P10.1: 0, 1, 2, 3 and the last one, both ways, in the smallest ring and the greatest
	type one struct {
		d           api.Dir
		owner, node int
		want        windows.Window
	}
	half, guard, relay := windows.RoHalf, windows.RoGuard, windows.RoRelay
	for _, c := range []struct {
		ring api.Config
		all  []one
	}{
		{ringed(4, 120, 1, 3), []one{
			{api.DrCw, 0, 1, windows.Window{half, 0, 1, 115}}, {api.DrCcw, 0, 2, windows.Window{half, 0, 1, 115}},
			{api.DrCw, 0, 2, windows.Window{half, 1, 2, 116}}, {api.DrCcw, 0, 1, windows.Window{half, 1, 2, 116}},
			{api.DrCw, 0, 3, windows.Window{guard, 2, 3, 117}}, {api.DrCcw, 0, 0, windows.Window{guard, 2, 3, 117}},
			{api.DrCw, 0, 0, windows.Window{relay, 3, 4, 118}}, {api.DrCcw, 0, 3, windows.Window{relay, 3, 4, 118}},
			{api.DrCw, 1, 3, windows.Window{half, 0, 1, 115}}, {api.DrCcw, 1, 0, windows.Window{half, 0, 1, 115}},
			{api.DrCw, 1, 2, windows.Window{relay, 3, 4, 118}}, {api.DrCcw, 1, 1, windows.Window{relay, 3, 4, 118}},
		}},
		{ringed(16, 132, 1, 3, 5, 7, 9, 11, 13, 15), []one{
			{api.DrCw, 7, 15, windows.Window{half, 0, 1, 115}}, {api.DrCcw, 7, 0, windows.Window{half, 0, 1, 115}},
			{api.DrCw, 7, 0, windows.Window{half, 1, 2, 116}}, {api.DrCcw, 7, 15, windows.Window{half, 1, 2, 116}},
			{api.DrCw, 7, 1, windows.Window{guard, 2, 3, 117}}, {api.DrCcw, 7, 14, windows.Window{guard, 2, 3, 117}},
			{api.DrCw, 7, 2, windows.Window{relay, 3, 4, 118}}, {api.DrCcw, 7, 13, windows.Window{relay, 3, 4, 118}},
			{api.DrCw, 7, 14, windows.Window{relay, 15, 16, 130}}, {api.DrCcw, 7, 1, windows.Window{relay, 15, 16, 130}},
			{api.DrCw, 0, 0, windows.Window{relay, 15, 16, 130}}, {api.DrCcw, 0, 3, windows.Window{relay, 15, 16, 130}},
		}},
	} {
		n := made(t, c.ring)
		for _, x := range c.all {
			if got := of(t, n, x.d, x.owner, x.node); got != x.want {
				t.Errorf("%d nodes: Of(%d, %d, %d) = %v, want %v", c.ring.Nodes, x.d, x.owner, x.node, got, x.want)
			}
		}
	}
}

func TestWindowsThatAreNone(t *testing.T) { // P10.1: no such direction, pair or node, each alone, each two, and all three
	for _, c := range samples() {
		n := made(t, c)
		for _, d := range noDirs() {
			refuse(t, n, d, 0, 0, api.ErrArg)
			refuse(t, n, d, -1, 0, api.ErrArg)
			refuse(t, n, d, 0, c.Nodes, api.ErrArg)
			refuse(t, n, d, len(c.Pairs), -1, api.ErrArg)
		}
		for _, d := range dirs() {
			for _, owner := range beyond(len(c.Pairs)) {
				refuse(t, n, d, owner, 0, api.ErrArg)
				refuse(t, n, d, owner, c.Nodes-1, api.ErrArg)
				refuse(t, n, d, owner, -1, api.ErrArg)
			}
			for _, node := range beyond(16) {
				refuse(t, n, d, 0, node, api.ErrArg)
				refuse(t, n, d, len(c.Pairs)-1, node, api.ErrArg)
			}
			refuse(t, n, d, 0, c.Nodes, api.ErrArg)
			refuse(t, n, d, len(c.Pairs), c.Nodes, api.ErrArg)
		}
	}
}

func TestOfNoNet(t *testing.T) { // P10.1, P10.3, R2, R3: whatever else is wrong, that there is none is told first
	for name, n := range noNets() {
		t.Run(name, func(t *testing.T) {
			for _, d := range append(dirs(), noDirs()...) {
				for _, owner := range append(beyond(2), 0, 1) {
					for _, node := range append(beyond(4), 0, 1, 2, 3) {
						refuse(t, n, d, owner, node, api.ErrNil)
					}
					guards(t, n, owner, -1, -1)
				}
			}
			over(t, n, 0)
		})
	}
}

func TestANetsWindowsAreAsItWasMade(t *testing.T) { // P10.1, P10.3: whatever is written to the config that a net embeds
	for _, other := range []api.Config{{}, ringed(16, 4096, 5, 9), {Nodes: -1, Pairs: []int{99}}, {Nodes: math.MaxInt}} {
		c := ringed(6, 122, 2, 5)
		n := made(t, c)
		n.Config = other
		each(c, func(d api.Dir, owner, node int) {
			if got, want := of(t, n, d, owner, node), worded(c, d, owner, node); got != want {
				t.Errorf("Of(%d, %d, %d) = %v, want %v", d, owner, node, got, want)
			}
		})
		refuse(t, n, api.DrCw, 0, 6, api.ErrArg)
		guards(t, n, 0, 4, 1)
		guards(t, n, 1, 1, 4)
		over(t, n, 120)
	}
}

// places: of a slot of so many ticks all, with those around it, and far ones.
func places(long int) []int {
	out := []int{math.MinInt, math.MinInt + 1, -1 << 40, -1 << 32, -4096, 1 << 32, 1<<32 + 5, 1 << 40, math.MaxInt - 1, math.MaxInt}
	for place := -20; place < long+150; place++ {
		out = append(out, place)
	}
	return out
}

func TestWindowsAreOpenTickByTick(t *testing.T) { // P10.2: each place of the slot, and those that no slot has; each symbol
	for _, c := range []api.Config{ringed(4, 120, 0, 2), ringed(7, 127, 1, 4, 6), ringed(16, 132, 0, 2, 4, 6, 8, 10, 12, 14)} {
		n := made(t, c)
		for _, d := range dirs() {
			for node := range c.Nodes {
				w, want := of(t, n, d, 1, node), worded(c, d, 1, node)
				for _, place := range places(c.Long) {
					if place < 1+want.Place || place > want.Place+114 {
						at(t, w, place, 0, false)
					} else {
						at(t, w, place, place-1-want.Place, true)
					}
				}
			}
		}
	}
}

func TestAWindowsEdges(t *testing.T) { // P10.2: the slot's places 0, 1 and the last one, and about a window's first place and its last one
	n := made(t, ringed(5, 121, 0, 3))
	for node, c := range []struct{ ahead, first, last, behind int }{{0, 1, 114, 115}, {1, 2, 115, 116}, {2, 3, 116, 117}, {3, 4, 117, 118}, {4, 5, 118, 119}} {
		w := of(t, n, api.DrCw, 0, node)
		at(t, w, 0, 0, false)
		at(t, w, 1, 0, node == 0)
		at(t, w, c.ahead, 0, false)
		at(t, w, c.first, 0, true)
		at(t, w, c.first+1, 1, true)
		at(t, w, c.last-1, 112, true)
		at(t, w, c.last, 113, true)
		at(t, w, c.behind, 0, false)
		at(t, w, 120, 0, false)
		at(t, w, 121, 0, false)
		at(t, w, -1, 0, false)
	}
}

func TestEmptyWindows(t *testing.T) { // P10.2, R3: one that no call made, or that ends where it begins, or ahead of that, is never open
	for _, w := range []windows.Window{
		{}, {Role: windows.RoHalf}, {Role: windows.RoRelay, Place: 5}, {windows.RoGuard, 2, 3, 3}, {windows.RoGuard, 2, 117, 3}, {Begin: 5, End: 4}, {Begin: 1}, {End: -1},
		{Begin: math.MaxInt, End: math.MinInt}, {Begin: math.MaxInt, End: math.MaxInt}, {Begin: math.MinInt, End: math.MinInt}, {Begin: math.MaxInt, End: 0}, {Begin: 0, End: math.MinInt},
	} {
		for _, place := range places(120) {
			at(t, w, place, 0, false)
		}
	}
}

func TestWindowsOfWhateverNumbers(t *testing.T) { // P10.2, R1: each is open from where it begins to where it ends, whatever else it says
	numbers := []int{0, 1, 2, 3, -1, -2, 5, 114, 115, 117, 4096, -4096, 1 << 32, -1 << 32, math.MaxInt, math.MaxInt - 1, math.MinInt, math.MinInt + 1}
	for _, begin := range numbers {
		for _, end := range numbers {
			for _, place := range append(numbers, 4, 6, 113, 116, 4095) {
				w := windows.Window{Role: windows.Role(begin), Place: end, Begin: begin, End: end}
				open := begin <= place && place < end
				i, ok := w.At(place)
				if ok != open || !open && i != 0 {
					t.Errorf("%v.At(%d) = %d, %v, want %v", w, place, i, ok, open)
				}
				// As many ticks behind its begin as a number holds are told; of more nothing is awaited but an end.
				if open && (begin >= 0 || place < math.MaxInt+begin) && begin+i != place {
					t.Errorf("%v.At(%d) = %d", w, place, i)
				}
				pass(t, w, place, open)
			}
		}
	}
}

func TestWhatAWindowSaysOfItselfOpensNothing(t *testing.T) { // P10.2: its ticks are those that it tells, whatever role and place it tells
	for role := range 256 {
		for _, place := range []int{-1, 0, 1, 2, 3, 15, 16, math.MaxInt, math.MinInt} {
			w := windows.Window{Role: windows.Role(role), Place: place, Begin: 10, End: 13}
			for at, open := range []bool{9: false, 10: true, 11: true, 12: true, 13: false} {
				i, ok := w.At(at)
				if ok != open || open && i != at-10 || !open && i != 0 {
					t.Errorf("%v.At(%d) = %d, %v", w, at, i, ok)
				}
			}
		}
	}
}

func TestGuardsAreNeighboursOfTheHalves(t *testing.T) { // P10.3, P10.4: one on each side, of each owner of each ring
	for _, c := range samples() {
		n := made(t, c)
		for owner, first := range c.Pairs {
			second := on(c.Nodes, api.DrCw, first)
			cw, ccw := on(c.Nodes, api.DrCw, second), on(c.Nodes, api.DrCcw, first)
			guards(t, n, owner, cw, ccw)
			if cw == ccw || cw == first || ccw == second {
				t.Errorf("%d nodes: guards %d, %d of %d", c.Nodes, cw, ccw, owner)
			}
			a, b := windows.Guards(n, owner)
			for _, d := range dirs() {
				for node := range c.Nodes {
					is := d == api.DrCw && node == a || d == api.DrCcw && node == b
					if got := of(t, n, d, owner, node).Role == windows.RoGuard; got != is {
						t.Errorf("%d nodes, owner %d: is %d a guard, in direction %d? %v", c.Nodes, owner, node, d, got)
					}
				}
			}
		}
	}
}

func TestGuardsOfNoPair(t *testing.T) { // P10.3: -1, -1
	for _, c := range samples() {
		n := made(t, c)
		for _, owner := range beyond(len(c.Pairs)) {
			guards(t, n, owner, -1, -1)
		}
		for owner := len(c.Pairs); owner <= 16; owner++ {
			guards(t, n, owner, -1, -1)
		}
	}
}

func TestHalvesAreAsTheyAreWorded(t *testing.T) { // P10.1: both halves are just that, both ways, and nobody else is
	for _, c := range samples() {
		n := made(t, c)
		each(c, func(d api.Dir, owner, node int) {
			is := node == c.Pairs[owner] || node == on(c.Nodes, api.DrCw, c.Pairs[owner])
			if got := of(t, n, d, owner, node).Role == windows.RoHalf; got != is {
				t.Errorf("%d nodes, owner %d: is %d a half? %v", c.Nodes, owner, node, got)
			}
		})
	}
}

// ofOwner: each node's window in an owner's slot, in a direction, by nodes.
func ofOwner(t *testing.T, n *configs.Net, c api.Config, d api.Dir, owner int) []windows.Window {
	t.Helper()
	out := []windows.Window{}
	for node := range c.Nodes {
		out = append(out, of(t, n, d, owner, node))
	}
	return out
}

// anyOpen: does one of these let a symbol through at a place?
func anyOpen(all []windows.Window, place int) bool {
	for _, w := range all {
		if w.Pass(place, api.SyOne) == api.SyOne {
			return true
		}
	}
	return false
}

// closed: the first place of a slot from which on none of these windows is open, looked for from the slot's last place back.
func closed(all []windows.Window, long int) int {
	for place := long - 1; place >= 0; place-- {
		if anyOpen(all, place) {
			return place + 1
		}
	}
	return 0
}

func TestOverIsWhereTheLastWindowCloses(t *testing.T) { // P10.3, P10.4: whoever owns the slot, either way, and ahead of the slot's last place
	for _, c := range samples() {
		n := made(t, c)
		got := windows.Over(n)
		for owner := range c.Pairs {
			for _, d := range dirs() {
				if want := closed(ofOwner(t, n, c, d, owner), c.Long); got != want {
					t.Errorf("%d nodes, slots of %d: Over = %d, but the owner %d's last window, direction %d, closes at %d", c.Nodes, c.Long, got, owner, d, want)
				}
			}
		}
		// The last place at which one is open lies ahead of the slot's last one.
		if got != c.Nodes+114 || got-1 >= c.Long-1 {
			t.Errorf("%d nodes, slots of %d: Over = %d", c.Nodes, c.Long, got)
		}
	}
}

func TestBetweenSlotsNothingPasses(t *testing.T) { // P10.4: two ticks at least between all windows of a slot and all of the next one, whoever own them
	for _, c := range nearby() {
		n := made(t, c)
		byOwner := [][]windows.Window{}
		for owner := range c.Pairs {
			byOwner = append(byOwner, append(ofOwner(t, n, c, api.DrCw, owner), ofOwner(t, n, c, api.DrCcw, owner)...))
		}
		for owner, now := range byOwner {
			for next, then := range byOwner {
				gap, begun := 0, 0
				for place := c.Long - 1; place >= 0 && !anyOpen(now, place); place-- {
					gap++
				}
				for begun < c.Long && !anyOpen(then, begun) {
					begun++
				}
				if gap < 1 || gap+begun < 2 || gap+begun >= c.Long {
					t.Errorf("%d nodes, slots of %d, owners %d and %d: %d ticks between windows", c.Nodes, c.Long, owner, next, gap+begun)
				}
			}
		}
	}
}

// mark: what a node sends in a tick of its window, so that whoever has it knows whose it is, and which tick's.
type mark struct{ sender, slot, tick int }

// slotsOf owners, one behind the other: each node sends, on both links of each direction, while its window is open; told is called with what is there at each place.
func slotsOf(t *testing.T, c api.Config, owners []int, told func(slot, place int, d api.Dir, node, hop int, m mark, is bool)) {
	t.Helper()
	n := made(t, c)
	w, e := wires.New[mark](c.Nodes)
	if e != api.OK {
		t.Fatal(e)
	}
	for slot, owner := range owners {
		all := [][]windows.Window{ofOwner(t, n, c, api.DrCw, owner), ofOwner(t, n, c, api.DrCcw, owner)}
		for place := range c.Long {
			for _, d := range dirs() {
				for node, win := range all[d] {
					i, open := win.At(place)
					for hop := 1; hop <= 2; hop++ {
						if open {
							w.Give(4*node+2*int(d)+hop-1, mark{node, slot, i})
						}
						m, is := w.Here(d, node, hop)
						told(slot, place, d, node, hop, m, is)
					}
				}
			}
			w.End()
		}
	}
}

func TestWhatASourceSendsIsThereAtTheSameTick(t *testing.T) { // P10.4: over each link that leads on from an owner, through slots one behind the other
	for _, c := range nearby() {
		n := made(t, c)
		owners := []int{0, len(c.Pairs) - 1, len(c.Pairs) - 1, 0, 1}
		heard := 0
		slotsOf(t, c, owners, func(slot, place int, d api.Dir, node, hop int, m mark, is bool) {
			win := of(t, n, d, owners[slot], node)
			if win.Place < hop {
				return
			}
			source := node
			for range hop {
				source = back(c.Nodes, d, source)
			}
			i, open := win.At(place)
			want := mark{}
			if open {
				want = mark{source, slot, i}
				heard++
			}
			if is != open || m != want {
				t.Errorf("%d nodes, slot %d, place %d: at node %d, direction %d, hop %d: %v, %v, want %v, %v", c.Nodes, slot, place, node, d, hop, m, is, want, open)
			}
		})
		// Each node but the one at place 0 has its neighbour's 114 ticks, and each but the two first ones its skip's, both ways.
		if want := len(owners) * 2 * 114 * (2*c.Nodes - 3); heard != want {
			t.Errorf("%d nodes: %d things were there, want %d", c.Nodes, heard, want)
		}
	}
}

func TestPlacesGoOnByHops(t *testing.T) { // P10.4: a window opens, and closes, as many ticks behind its source's as the link is long
	for _, c := range samples() {
		n := made(t, c)
		each(c, func(d api.Dir, owner, node int) {
			w := of(t, n, d, owner, node)
			source := node
			for hop := 1; hop <= 2 && w.Place >= hop; hop++ {
				source = back(c.Nodes, d, source)
				ahead := of(t, n, d, owner, source)
				if w.Place != ahead.Place+hop || w.Begin != ahead.Begin+hop || w.End != ahead.End+hop {
					t.Errorf("%d nodes, owner %d: %v at %d, %v at %d, %d on", c.Nodes, owner, ahead, source, w, node, hop)
				}
			}
		})
	}
}

// answers: everything that is told of a net, as one text.
func answers(n *configs.Net) string {
	out := []byte{}
	tell := func(numbers ...int) {
		for _, x := range numbers {
			out = append(strconv.AppendInt(out, int64(x), 10), ' ')
		}
	}
	for d := range api.Dir(3) {
		for owner := -1; owner <= 8; owner++ {
			for node := -1; node <= 16; node++ {
				w, e := windows.Of(n, d, owner, node)
				i, open := w.At(7)
				if open {
					i += 1000
				}
				tell(int(w.Role), w.Place, w.Begin, w.End, int(e), i, int(w.Pass(8, 2)))
			}
			cw, ccw := windows.Guards(n, owner)
			tell(cw, ccw)
		}
	}
	tell(windows.Over(n))
	return string(out)
}

func TestNetsTurnByTurn(t *testing.T) { // R1, R5: no call changes a net, nor what is told of it, or of another one
	alone := []string{}
	nets := []*configs.Net{nil, {}}
	for _, c := range samples() {
		nets = append(nets, made(t, c))
	}
	for _, n := range nets {
		alone = append(alone, answers(n))
	}
	source := rand.New(rand.NewSource(10))
	for range 200 {
		i := source.Intn(len(nets))
		if got := answers(nets[i]); got != alone[i] {
			t.Fatalf("net %d: %s, and then %s", i, alone[i], got)
		}
	}
	for i, c := range samples() {
		given := nets[i+2].Given()
		if again := answers(made(t, given)); again != alone[i+2] {
			t.Errorf("net %d is changed: %+v, was %+v", i+2, given, c)
		}
	}
}

func TestAWindowIsAValue(t *testing.T) { // R1, R4, R5: no call changes one, and what becomes of one changes no other
	n := made(t, ringed(6, 122, 2, 5))
	a, b := of(t, n, api.DrCw, 0, 4), of(t, n, api.DrCw, 0, 4)
	kept := a
	for _, place := range places(122) {
		a.At(place)
		a.Pass(place, api.SyOne)
	}
	if a != kept || a != b {
		t.Errorf("%v, %v, was %v", a, b, kept)
	}
	a.Begin, a.End, a.Role = 50, 60, windows.RoNone
	at(t, a, 55, 5, true)
	at(t, b, 55, 52, true)
	if again := of(t, n, api.DrCw, 0, 4); again != b || b != kept {
		t.Errorf("%v, %v, was %v", again, b, kept)
	}
}
