package flows_test

import (
	"math"
	"math/rand"
	"slices"
	"strconv"
	"testing"

	"sennit/api"
	"sennit/bits"
	"sennit/catches"
	"sennit/configs"
	"sennit/flows"
	"sennit/sums"
	"sennit/wires"
)

type syms = []api.Sym

// gift: what a flow gives at a place, by directions.
type gift = [2]api.Sym

const none = api.SyNone

// ringed: a config of so many nodes, with these pairs, each of which has one slot of so many ticks.
func ringed(nodes, long int, pairs ...int) api.Config {
	c := api.Config{Nodes: nodes, Pairs: pairs, Long: long, Boots: make([]int, nodes), Miss: 3, Good: 3, Fresh: 3}
	for pair := range pairs {
		c.Slots = append(c.Slots, pair)
	}
	return c
}

// samples: of each number of nodes the fewest pairs and the most, some with a pair of the last node and node 0, in the shortest slots and longer ones.
func samples() []api.Config {
	out := []api.Config{}
	for nodes := 4; nodes <= 16; nodes++ {
		shortest := nodes + 116
		most, turned := []int{}, []int{}
		for first := 0; first+1 < nodes; first += 2 {
			most = append(most, first)
			turned = append(turned, first+1)
		}
		out = append(out, ringed(nodes, shortest, most...), ringed(nodes, shortest+1, 0, nodes-2), ringed(nodes, 150, 1, nodes-1))
		if nodes%2 == 0 {
			out = append(out, ringed(nodes, shortest, turned...))
		}
	}
	slots := ringed(5, 121, 1, 4)
	slots.Slots = []int{1, 0, 1, 1, 0}
	return append(out, slots)
}

// few of the samples, for tests that go through whole rings often: the smallest rings, one of an odd number of nodes, and the greatest.
func few() []api.Config {
	return []api.Config{ringed(4, 120, 0, 2), ringed(4, 121, 1, 3), ringed(5, 121, 0, 2), ringed(5, 121, 1, 4), ringed(7, 123, 1, 3, 6), ringed(16, 132, 1, 3, 5, 7, 9, 11, 13, 15), ringed(16, 133, 4, 10)}
}

// made: the net of a config that may be.
func made(t *testing.T, c api.Config) *configs.Net {
	t.Helper()
	n, e := configs.New(c)
	if n == nil || e != api.OK {
		t.Fatalf("configs.New(%+v) = %v, %d", c, n, e)
	}
	return n
}

// on: the next node in a direction, round.
func on(c api.Config, d api.Dir, node int) int {
	switch {
	case d == api.DrCw && node == c.Nodes-1:
		return 0
	case d == api.DrCw:
		return node + 1
	case node == 0:
		return c.Nodes - 1
	}
	return node - 1
}

// halves of an owner.
func halves(c api.Config, owner int) [2]int {
	return [2]int{c.Pairs[owner], on(c, api.DrCw, c.Pairs[owner])}
}

func isHalf(c api.Config, owner, node int) bool {
	h := halves(c, owner)
	return node == h[0] || node == h[1]
}

// others than the halves of an owner.
func others(c api.Config, owner int) []int {
	out := []int{}
	for node := range c.Nodes {
		if !isHalf(c, owner, node) {
			out = append(out, node)
		}
	}
	return out
}

// begins: the place of the slot at which a node's window opens, by directions: its place is counted step by step.
func begins(c api.Config, owner, node int) [2]int {
	out := [2]int{1, 1}
	for d, at := range halves(c, owner) {
		for ; at != node; at = on(c, api.Dir(d), at) {
			out[d]++
		}
	}
	return out
}

// places: all of a slot of so many ticks, with those around it, and far ones.
func places(long int) []int {
	out := []int{math.MinInt, math.MinInt + 1, -1 << 40, -1 << 32, 1 << 32, 1<<32 + 5, 1 << 40, math.MaxInt - 1, math.MaxInt}
	for place := -20; place < long+130; place++ {
		out = append(out, place)
	}
	return out
}

// beyond: numbers of which there is none, where there are so many: the last one's next, and others around, ones that would wrap round among them.
func beyond(many int) []int {
	return []int{-1, many, many + 1, -2, -many, -many - 1, 2 * many, 100, 255, 256, 1 << 32, 1<<32 + 1, -1 << 32, math.MaxInt, math.MaxInt - 1, math.MinInt, math.MinInt + 1}
}

func data(value uint32) api.Payload {
	return api.Payload{Kind: api.PyData, Station: 200, Seq: 70000, Value: value}
}

func said(p api.Payload) api.Said { return api.Said{Is: true, At: 5, P: p} }

// offers: a half's own, and its partner's.
type offers struct{ own, partner api.Said }

// agreed: do they send?
func (o offers) agreed() bool { return o.own.Is && o.partner.Is && o.own.P == o.partner.P }

// same offer of both.
func same(p api.Payload) offers { return offers{said(p), said(p)} }

// manyOffers: the same, unlike, the one none, the other none, both none, and of a kind that may not be.
func manyOffers() []offers {
	odd := api.Payload{Kind: 9, Value: 4}
	return []offers{same(data(1)), {said(data(1)), said(data(2))}, {said(data(1)), api.Said{}}, {api.Said{}, said(data(1))}, {}, same(odd), {said(odd), api.Said{}}, {api.Said{P: odd}, api.Said{P: odd}}}
}

// laid: the symbols of an owner's frame with a good tail, as chapter 5 words them.
func laid(owner int, p api.Payload) syms {
	b := []byte{16*byte(p.Kind) + byte(owner), p.Station}
	for _, x := range []uint32{p.Seq, p.Value} {
		b = append(b, byte(x>>24), byte(x>>16), byte(x>>8), byte(x))
	}
	return append(bits.Of(sums.Put(b)), api.SyOne, api.SyZero)
}

// shown: which of these symbols is at a place, if the first one is at that one.
func shown(all syms, begin, place int) api.Sym {
	if place < begin || place-begin >= len(all) {
		return none
	}
	return all[place-begin]
}

// both: the same symbols on each link, each way in time for a window that begins there.
func both(all syms, begin [2]int, place int) (in flows.Ins) {
	for d := range in {
		x := shown(all, begin[d], place)
		in[d] = [2]api.Sym{x, x}
	}
	return in
}

// flow of a node, in no slot.
func flow(t *testing.T, n *configs.Net, node int) *flows.Flow {
	t.Helper()
	f, e := flows.New(n, node)
	if f == nil || e != api.OK {
		t.Fatalf("New(%d) = %v, %d", node, f, e)
	}
	return f
}

// begin fails if Begin answers another error.
func begin(t *testing.T, f *flows.Flow, owner int, o offers, want api.Errno) {
	t.Helper()
	if e := f.Begin(owner, o.own, o.partner); e != want {
		t.Fatalf("Begin(%d, %+v, %+v) = %d, want %d", owner, o.own, o.partner, e, want)
	}
}

// begun: a flow of a node in a slot of that owner.
func begun(t *testing.T, n *configs.Net, node, owner int, o offers) *flows.Flow {
	t.Helper()
	f := flow(t, n, node)
	begin(t, f, owner, o, api.OK)
	return f
}

// tick fails if a flow gives anything else.
func tick(t *testing.T, f *flows.Flow, place int, in flows.Ins, want gift) {
	t.Helper()
	if out := f.Tick(place, in); out != want {
		t.Fatalf("Tick(%d, %v) = %v, want %v", place, in, out, want)
	}
}

// tells fails if a flow tells anything else, when asked, and when asked again.
func tells(t *testing.T, f *flows.Flow, heard, sent api.Said, high [2]bool) {
	t.Helper()
	for range 2 {
		if p, is := f.Heard(); p != heard.P || is != heard.Is {
			t.Fatalf("Heard() = %+v, %v, want %+v", p, is, heard)
		}
		if p, is := f.Sent(); p != sent.P || is != sent.Is {
			t.Fatalf("Sent() = %+v, %v, want %+v", p, is, sent)
		}
		if got := f.High(); got != high {
			t.Fatalf("High() = %v, want %v", got, high)
		}
	}
}

// nothing fails if a flow tells anything.
func nothing(t *testing.T, f *flows.Flow) {
	t.Helper()
	tells(t, f, api.Said{}, api.Said{}, [2]bool{})
}

// heard fails unless a flow heard that, both ways, and sent nothing.
func heard(t *testing.T, f *flows.Flow, p api.Payload) {
	t.Helper()
	tells(t, f, said(p), api.Said{}, [2]bool{true, true})
}

// idle fails if a flow gives, or tells, anything, whatever comes, and wherever.
func idle(t *testing.T, f *flows.Flow) {
	t.Helper()
	for _, place := range places(132) {
		nothing(t, f)
		for _, x := range kinds() {
			tick(t, f, place, flows.Ins{{x, x}, {x, x}}, gift{})
		}
	}
	nothing(t, f)
}

// kinds of symbols: none, zero, one, and some that are none of them.
func kinds() syms { return syms{api.SyNone, api.SyZero, api.SyOne, 3, 255} }

// anySym: of any kind.
func anySym(r *rand.Rand) api.Sym { return kinds()[r.Intn(5)] }

// babble: any symbol on each link.
func babble(r *rand.Rand) (in flows.Ins) {
	for d := range in {
		in[d] = [2]api.Sym{anySym(r), anySym(r)}
	}
	return in
}

// model of a flow that is in a slot, as the document words it.
type model struct {
	half  bool
	sent  api.Said // of a half
	frame syms     // that it sends
	begin [2]int
	catch [2]*catches.Catch // of another node
}

func modelled(c api.Config, node, owner int, o offers) *model {
	m := &model{half: isHalf(c, owner, node), begin: begins(c, owner, node)}
	switch {
	case m.half && o.agreed():
		m.sent = api.Said{Is: true, P: o.own.P}
		m.frame = laid(owner, o.own.P)
	case !m.half:
		for d := range m.catch {
			m.catch[d], _ = catches.New(owner)
		}
	}
	return m
}

func (m *model) tick(place int, in flows.Ins) (out gift) {
	for d, first := range m.begin {
		if m.half {
			out[d] = shown(m.frame, first, place)
		} else if place >= first && place <= first+113 {
			out[d] = m.catch[d].Step(in[d][0], in[d][1])
		}
	}
	return out
}

// check fails if a flow tells anything else than its model.
func (m *model) check(t *testing.T, f *flows.Flow) {
	t.Helper()
	was, high := api.Said{}, [2]bool{}
	for d := 1; d >= 0; d-- {
		frame, is := m.catch[d].High()
		if is {
			was = api.Said{Is: true, P: frame.Payload}
		}
		high[d] = is
	}
	tells(t, f, was, m.sent, high)
}

// along fails unless a flow that just began a slot does as its model, at each place of it, asked ahead of it, at each place, and behind it.
func along(t *testing.T, f *flows.Flow, c api.Config, node, owner int, o offers, in func(place int) flows.Ins) {
	t.Helper()
	m := modelled(c, node, owner, o)
	m.check(t, f)
	for place := range c.Long {
		x := in(place)
		tick(t, f, place, x, m.tick(place, x))
		m.check(t, f)
	}
}

func TestAsTheDocumentHasIt(t *testing.T) { // P12.1 to P12.4: its example, by links that each bring what the one ahead gives
	c := ringed(4, 120, 0, 2)
	v := api.Payload{Kind: api.PyCommand, Station: 2, Seq: 3, Value: 4}
	all := slotOf(t, c, 0, same(v), nil)
	heard(t, all[2], v)
	heard(t, all[3], v)
	for _, node := range []int{0, 1} {
		tells(t, all[node], api.Said{}, said(v), [2]bool{})
	}
}

func TestNodesThatThereAreNone(t *testing.T) { // P12.1: below 0, behind the last one, and far off
	for _, c := range samples() {
		n := made(t, c)
		for _, node := range append(beyond(c.Nodes), beyond(16)...) {
			if f, e := flows.New(n, node); f != nil || e != api.ErrArg {
				t.Errorf("%d nodes: New(%d) = %v, %d", c.Nodes, node, f, e)
			}
		}
		for node := range c.Nodes {
			nothing(t, flow(t, n, node))
		}
	}
}

func TestOfNoNet(t *testing.T) { // P12.1, R2, R3: of whichever node
	for name, n := range map[string]*configs.Net{"nil": nil, "empty": {}, "by hand": {Config: ringed(4, 120, 0, 2)}, "of nodes": {Config: api.Config{Nodes: 6}}} {
		for _, node := range append(beyond(4), 0, 1, 2, 3) {
			if f, e := flows.New(n, node); f != nil || e != api.ErrNil {
				t.Errorf("%s: New(%d) = %v, %d", name, node, f, e)
			}
		}
	}
}

func TestFlowsThatAreNone(t *testing.T) { // P12.1 to P12.3, R2, R3: one that is not there, or that no call made, begins nothing, whatever else is wrong
	refused, _ := flows.New(nil, 0)
	for _, f := range []*flows.Flow{nil, {}, new(flows.Flow), refused} {
		for _, owner := range append(beyond(2), 0, 1) {
			for _, o := range manyOffers() {
				begin(t, f, owner, o, api.ErrNil)
			}
		}
		idle(t, f)
	}
}

func TestInNoSlot(t *testing.T) { // P12.1 to P12.3: a flow that is new
	for _, c := range few() {
		n := made(t, c)
		for node := range c.Nodes {
			idle(t, flow(t, n, node))
		}
	}
}

func TestOwnersThatThereAreNone(t *testing.T) { // P12.1: in no slot, and in one, of a half and of another node: then it is in no slot
	for _, c := range samples() {
		n := made(t, c)
		for node := range c.Nodes {
			for i, owner := range beyond(len(c.Pairs)) {
				f := flow(t, n, node)
				begin(t, f, owner, same(data(1)), api.ErrArg)
				nothing(t, f)
				begin(t, f, i%len(c.Pairs), same(data(1)), api.OK)
				begin(t, f, owner, offers{}, api.ErrArg)
				nothing(t, f)
				for place := range c.Long {
					tick(t, f, place, flows.Ins{{api.SyOne, api.SyOne}, {api.SyOne, api.SyOne}}, gift{})
				}
				nothing(t, f)
			}
		}
	}
}

func TestABeginThatFailsEndsTheSlot(t *testing.T) { // P12.1: also where a frame was heard both ways, or is half through
	c := ringed(5, 121, 0, 2)
	n := made(t, c)
	frame := laid(0, data(7))
	for _, till := range []int{0, 1, 5, 60, 118, 121} {
		for _, wrong := range []int{-1, 2, math.MaxInt} {
			f := begun(t, n, 3, 0, offers{})
			for place := range till {
				f.Tick(place, both(frame, [2]int{4, 4}, place))
			}
			begin(t, f, wrong, offers{}, api.ErrArg)
			idle(t, f)
		}
	}
	f := begun(t, n, 2, 1, same(data(7)))
	tells(t, f, api.Said{}, said(data(7)), [2]bool{})
	begin(t, f, 1, same(api.Payload{}), api.ErrArg)
	idle(t, f)
	begin(t, f, 1, same(data(8)), api.OK)
	tells(t, f, api.Said{}, said(data(8)), [2]bool{})
}

func TestEachKindOfPayload(t *testing.T) { // P12.1: others than the two are refused where a half would send them, and there alone
	c := ringed(5, 121, 1, 4)
	n := made(t, c)
	for kind := range 256 {
		p := data(6)
		p.Kind = api.Kind(kind)
		other := p
		other.Value++
		for node := range c.Nodes {
			for owner := range c.Pairs {
				want := api.OK
				if isHalf(c, owner, node) && kind != 1 && kind != 2 {
					want = api.ErrArg
				}
				f := flow(t, n, node)
				begin(t, f, owner, same(p), want)
				if want == api.OK && isHalf(c, owner, node) {
					tells(t, f, api.Said{}, said(p), [2]bool{})
				} else {
					nothing(t, f)
				}
				for _, o := range []offers{{said(p), said(other)}, {said(p), api.Said{}}, {api.Said{}, said(p)}, {api.Said{P: p}, api.Said{P: p}}} {
					begin(t, f, owner, o, api.OK)
					nothing(t, f)
				}
			}
		}
	}
}

func TestHalvesSendTheirOffer(t *testing.T) { // P12.1 to P12.3: each half of each pair of each ring, tick by tick, whatever comes; it hears nothing
	source := rand.New(rand.NewSource(1201))
	for _, c := range samples() {
		n := made(t, c)
		for owner := range c.Pairs {
			for _, node := range halves(c, owner) {
				p := api.Payload{Kind: api.PyCommand, Station: uint8(node), Seq: uint32(owner) << 29, Value: uint32(c.Nodes) << 20}
				f := begun(t, n, node, owner, same(p))
				along(t, f, c, node, owner, same(p), func(int) flows.Ins { return babble(source) })
				tells(t, f, api.Said{}, said(p), [2]bool{})
				// Not even what the others of its pair's slot would hear.
				frame := laid(owner, p)
				begin(t, f, owner, same(p), api.OK)
				along(t, f, c, node, owner, same(p), func(place int) flows.Ins { return both(frame, begins(c, owner, node), place) })
				tells(t, f, api.Said{}, said(p), [2]bool{})
			}
		}
	}
}

func TestOffersOfAHalf(t *testing.T) { // P12.1 to P12.3: the same, unlike by each bit, the one none, the other none, both none; At is not looked at
	c := ringed(5, 121, 1, 4)
	n := made(t, c)
	p := api.Payload{Kind: api.PyCommand, Station: 3, Seq: 5, Value: 1 << 30}
	all := append(manyOffers()[:5], same(p), offers{api.Said{Is: true, At: -1, P: p}, api.Said{Is: true, At: math.MaxInt64, P: p}})
	for bit := range 32 {
		station, seq, value := p, p, p
		station.Station ^= 1 << (bit % 8)
		seq.Seq ^= 1 << bit
		value.Value ^= 1 << bit
		all = append(all, offers{said(p), said(station)}, offers{said(seq), said(p)}, offers{said(p), said(value)})
	}
	for _, o := range all {
		for _, node := range []int{4, 0} {
			f := begun(t, n, node, 1, o)
			along(t, f, c, node, 1, o, func(int) flows.Ins { return flows.Ins{} })
			if !o.agreed() {
				nothing(t, f)
			}
		}
	}
}

func TestAHalfsPlaces(t *testing.T) { // P12.2: in whatever order, those that no slot has, and again
	c := ringed(6, 122, 2, 5)
	n := made(t, c)
	source := rand.New(rand.NewSource(1202))
	all := places(122)
	for _, node := range []int{5, 0} {
		f := begun(t, n, node, 1, same(data(77)))
		m := modelled(c, node, 1, same(data(77)))
		for range 20 {
			source.Shuffle(len(all), func(i, j int) { all[i], all[j] = all[j], all[i] })
			for _, place := range all {
				in := babble(source)
				tick(t, f, place, in, m.tick(place, in))
				tick(t, f, place, in, m.tick(place, in))
			}
			m.check(t, f)
		}
	}
}

func TestOthersRelayAndHear(t *testing.T) { // P12.1 to P12.3: each node that is no half, guards, relays, other pairs' halves; each way, tick by tick, whatever its offers are
	for i, c := range samples() {
		n := made(t, c)
		for owner := range c.Pairs {
			p := data(uint32(owner))
			frame := laid(owner, p)
			for _, node := range others(c, owner) {
				o := manyOffers()[(i+node)%8]
				first := begins(c, owner, node)
				f := begun(t, n, node, owner, o)
				nothing(t, f)
				for place := range c.Long {
					want := gift{shown(frame, first[0], place), shown(frame, first[1], place)}
					tick(t, f, place, both(frame, first, place), want)
					if cw, ccw := place >= first[0]+113, place >= first[1]+113; cw || ccw {
						tells(t, f, said(p), api.Said{}, [2]bool{cw, ccw})
					} else {
						nothing(t, f)
					}
				}
				heard(t, f, p)
			}
		}
	}
}

func TestOthersAsTheyAreWorded(t *testing.T) { // P12.2, P12.3: frames, spoiled ones, noise, on near, far, both, each way, with anything ahead of windows and behind them
	source := rand.New(rand.NewSource(1203))
	for _, c := range samples() {
		n := made(t, c)
		for owner := range c.Pairs {
			for _, node := range others(c, owner) {
				f := begun(t, n, node, owner, offers{})
				first := begins(c, owner, node)
				frames := [2][2]syms{}
				for d := range frames {
					for hop := range frames[d] {
						frames[d][hop] = someFrame(source, owner)
					}
				}
				along(t, f, c, node, owner, offers{}, func(place int) flows.Ins {
					in := babble(source)
					for d := range in {
						for hop := range in[d] {
							if place >= first[d] && place < first[d]+114 {
								in[d][hop] = frames[d][hop][place-first[d]]
							}
						}
					}
					return in
				})
			}
		}
	}
}

// someFrame: most often the owner's; else another one's, one with something turned, noise, or nothing.
func someFrame(r *rand.Rand, owner int) syms {
	s := laid(owner, data(5))
	switch r.Intn(8) {
	case 0:
		return laid((owner+1)%8, data(5))
	case 1:
		s[r.Intn(len(s))] = anySym(r)
	case 2:
		for i := range s {
			s[i] = anySym(r)
		}
	case 3:
		return make(syms, len(s))
	case 4:
		return laid(owner, data(6))
	}
	return s
}

func TestAWindowsEdges(t *testing.T) { // P12.2, P12.3: the slot's places 0, 1 and its last one, those about each window's first one and its last one, and those that no slot has
	c := ringed(7, 123, 0, 3, 5)
	n := made(t, c)
	frame := laid(1, data(9))
	// Node 6 is three steps CW of node 3, and five CCW of node 4: its windows open at 4 and at 6.
	f := begun(t, n, 6, 1, offers{})
	next := [2]int{}
	for _, x := range []struct {
		place     int
		open      [2]bool
		cwI, ccwI int
	}{
		{place: math.MinInt}, {place: -1}, {place: 0}, {place: 1}, {place: 2}, {place: 3},
		{4, [2]bool{true, false}, 0, 0}, {5, [2]bool{true, false}, 1, 0}, {6, [2]bool{true, true}, 2, 0}, {7, [2]bool{true, true}, 3, 1},
	} {
		want := gift{}
		for d, i := range [2]int{x.cwI, x.ccwI} {
			if x.open[d] {
				want[d] = frame[i]
				next[d] = i + 1
			}
		}
		// Ahead of the windows what comes is of no account.
		tick(t, f, x.place, flows.Ins{{frame[x.cwI], frame[x.cwI]}, {frame[x.ccwI], frame[x.ccwI]}}, want)
	}
	for place := 8; place < 116; place++ {
		tick(t, f, place, both(frame, [2]int{4, 6}, place), gift{frame[place-4], frame[place-6]})
	}
	loud := flows.Ins{{api.SyOne, api.SyOne}, {api.SyOne, api.SyOne}}
	tick(t, f, 116, flows.Ins{{frame[112], frame[112]}, {frame[110], frame[110]}}, gift{api.SyOne, frame[110]})
	nothing(t, f)
	tick(t, f, 117, flows.Ins{{frame[113], frame[113]}, {frame[111], frame[111]}}, gift{api.SyZero, frame[111]})
	tells(t, f, said(data(9)), api.Said{}, [2]bool{true, false})
	tick(t, f, 118, flows.Ins{{api.SyOne, api.SyOne}, {frame[112], frame[112]}}, gift{none, api.SyOne})
	tells(t, f, said(data(9)), api.Said{}, [2]bool{true, false})
	tick(t, f, 119, flows.Ins{{api.SyOne, api.SyOne}, {frame[113], frame[113]}}, gift{none, api.SyZero})
	heard(t, f, data(9))
	for _, place := range []int{120, 121, 122, 123, 124, 246, math.MaxInt, 0, -1, 1, 3, math.MinInt} {
		tick(t, f, place, loud, gift{})
		heard(t, f, data(9))
	}
}

func TestEachPairOfSymbols(t *testing.T) { // P12.2, P12.3: none, zero, one and what is none of them, near alone, far alone, alike, unlike, at places of the frame from its first to its last, each way
	c := ringed(5, 121, 1, 3)
	n := made(t, c)
	p := data(0x0f0f0f0f)
	frame := laid(1, p)
	for d := range 2 {
		for _, at := range []int{0, 1, 7, 8, 55, 79, 80, 111, 112, 113} {
			for _, near := range kinds() {
				for _, far := range kinds() {
					f := begun(t, n, 1, 1, offers{})
					first := begins(c, 1, 1)
					in := func(place int) flows.Ins {
						x := both(frame, first, place)
						if place == first[d]+at {
							x[d] = [2]api.Sym{near, far}
						}
						return x
					}
					along(t, f, c, 1, 1, offers{}, in)
					want := [2]bool{true, true}
					want[d] = near == frame[at] && far == frame[at]
					tells(t, f, said(p), api.Said{}, want)
				}
			}
		}
	}
}

func TestNearIsTakenAndElseFar(t *testing.T) { // P12.2: by the links of that direction, and no others
	c := ringed(4, 120, 0, 2)
	f := begun(t, made(t, c), 2, 0, offers{})
	// Node 2 is at place 2 CW, and at place 3 CCW.
	tick(t, f, 3, flows.Ins{{api.SyOne, api.SyZero}, {api.SyZero, api.SyZero}}, gift{api.SyOne, none})
	tick(t, f, 4, flows.Ins{{none, api.SyZero}, {api.SyZero, api.SyOne}}, gift{api.SyZero, api.SyZero})
	tick(t, f, 5, flows.Ins{{api.SyZero, none}, {none, api.SyOne}}, gift{api.SyZero, api.SyOne})
	tick(t, f, 6, flows.Ins{{7, api.SyOne}, {api.SyOne, 7}}, gift{api.SyOne, api.SyOne})
	tick(t, f, 7, flows.Ins{{none, none}, {api.SyOne, api.SyOne}}, gift{none, api.SyOne})
	// From there on CW is cut off.
	tick(t, f, 8, flows.Ins{{api.SyOne, api.SyOne}, {api.SyZero, none}}, gift{none, api.SyZero})
	tick(t, f, 9, flows.Ins{{api.SyZero, api.SyZero}, {9, 200}}, gift{none, none})
	tick(t, f, 10, flows.Ins{{api.SyZero, api.SyZero}, {api.SyOne, api.SyOne}}, gift{})
}

func TestClockwiseIsHeardFirst(t *testing.T) { // P12.3: where both ways are high, with unlike frames; else the one that is
	c := ringed(6, 122, 0, 3)
	n := made(t, c)
	p, q := data(1), data(2)
	for _, node := range others(c, 1) {
		first := begins(c, 1, node)
		for high := range 4 {
			cw, ccw := high&1 != 0, high&2 != 0
			f := begun(t, n, node, 1, offers{})
			for place := range c.Long {
				in := flows.Ins{both(laid(1, p), first, place)[0], both(laid(1, q), first, place)[1]}
				for d, is := range [2]bool{cw, ccw} {
					if !is && place == first[d]+40 {
						in[d][0] = none
					}
				}
				f.Tick(place, in)
			}
			want := [4]api.Said{{}, said(p), said(q), said(p)}[high]
			tells(t, f, want, api.Said{}, [2]bool{cw, ccw})
		}
	}
}

func TestAnotherOwnersFrameIsNotHeard(t *testing.T) { // P12.1, P12.3: though it comes in that slot's time, both ways; its symbols go on all the same
	for _, c := range few() {
		n := made(t, c)
		for owner := range c.Pairs {
			other := (owner + 1) % len(c.Pairs)
			frame := laid(other, data(3))
			for _, node := range others(c, owner) {
				f := begun(t, n, node, owner, offers{})
				first := begins(c, owner, node)
				along(t, f, c, node, owner, offers{}, func(place int) flows.Ins { return both(frame, first, place) })
				nothing(t, f)
			}
		}
	}
}

func TestPlacesMissedAndTwice(t *testing.T) { // P12.2: a catch takes what comes in each tick, whichever place was ahead
	c := ringed(5, 121, 0, 2)
	n := made(t, c)
	source := rand.New(rand.NewSource(1204))
	all := places(121)
	for range 30 {
		for node := range c.Nodes {
			f := begun(t, n, node, 0, same(data(1)))
			m := modelled(c, node, 0, same(data(1)))
			for range 300 {
				place, in := all[source.Intn(len(all))], both(laid(0, data(1)), [2]int{}, source.Intn(114))
				tick(t, f, place, in, m.tick(place, in))
			}
			m.check(t, f)
		}
	}
	// A frame that is given at one place of the window alone is heard, too.
	f := begun(t, n, 3, 0, offers{})
	for i, x := range laid(0, data(4)) {
		tick(t, f, 50, flows.Ins{{x, x}, {x, x}}, gift{x, x})
		if i < 113 {
			nothing(t, f)
		}
	}
	heard(t, f, data(4))
	tick(t, f, 50, flows.Ins{{api.SyOne, api.SyOne}, {api.SyOne, api.SyOne}}, gift{})
	heard(t, f, data(4))
}

func TestBeginAnew(t *testing.T) { // P12.1 to P12.3: in a slot that is not over, of the same owner and of another one, as a half and as another node: nothing of it is left
	source := rand.New(rand.NewSource(1205))
	for _, c := range few() {
		n := made(t, c)
		for node := range c.Nodes {
			f := flow(t, n, node)
			for i := range 40 {
				owner := source.Intn(len(c.Pairs))
				o := manyOffers()[source.Intn(5)]
				begin(t, f, owner, o, api.OK)
				m := modelled(c, node, owner, o)
				frame, first := laid(owner, data(uint32(i))), begins(c, owner, node)
				for place := range source.Intn(2 * c.Long) {
					in := both(frame, first, place)
					tick(t, f, place, in, m.tick(place, in))
				}
				m.check(t, f)
			}
		}
	}
}

func TestBeginAnewHearsAWholeFrameOnly(t *testing.T) { // P12.1, P12.3: what came ahead of it is not counted, and spoils nothing
	c := ringed(4, 120, 0, 2)
	f := flow(t, made(t, c), 2)
	one, two := laid(0, data(1)), laid(0, data(2))
	for till := range 121 {
		begin(t, f, 0, offers{}, api.OK)
		for place := range till {
			f.Tick(place, both(one, [2]int{3, 4}, place))
		}
		begin(t, f, 0, offers{}, api.OK)
		nothing(t, f)
		for place := till; place < 120; place++ {
			f.Tick(place, both(one, [2]int{3, 4}, place))
		}
		if p, is := f.Heard(); is != (till <= 4) || is && p != data(1) {
			t.Errorf("begun anew at %d: %+v, %v", till, p, is)
		}
		begin(t, f, 0, offers{}, api.OK)
		for place := range 120 {
			f.Tick(place, both(two, [2]int{3, 4}, place))
		}
		heard(t, f, data(2))
	}
}

func TestOneNodeThroughARound(t *testing.T) { // P12.1 to P12.3: as a half, a guard, a relay, and a half again; all is told till the next slot begins
	c := ringed(7, 123, 0, 2, 5)
	n := made(t, c)
	for node := range c.Nodes {
		f := flow(t, n, node)
		for i := range 12 {
			owner, p := i%3, data(uint32(i))
			begin(t, f, owner, same(p), api.OK)
			first, frame := begins(c, owner, node), laid(owner, p)
			along(t, f, c, node, owner, same(p), func(place int) flows.Ins { return both(frame, first, place) })
			if isHalf(c, owner, node) {
				tells(t, f, api.Said{}, said(p), [2]bool{})
			} else {
				heard(t, f, p)
			}
		}
		begin(t, f, 0, offers{}, api.OK)
		nothing(t, f)
	}
}

// lie: what goes onto a link instead of what was given, at a place.
type lie func(link, place int, x api.Sym) api.Sym

// honest: all goes onto links as it was given.
func honest(_, _ int, x api.Sym) api.Sym { return x }

// ring of flows over all links.
type ring struct {
	c   api.Config
	all []*flows.Flow
	w   *wires.Wires[api.Sym]
}

func ringOf(t *testing.T, c api.Config) *ring {
	t.Helper()
	n := made(t, c)
	r := &ring{c: c}
	for node := range c.Nodes {
		r.all = append(r.all, flow(t, n, node))
	}
	var e api.Errno
	if r.w, e = wires.New[api.Sym](c.Nodes); e != api.OK {
		t.Fatal(e)
	}
	return r
}

// begin a slot of that owner at each node: both halves have offers by their nodes.
func (r *ring) begin(t *testing.T, owner int, o func(node int) offers) {
	t.Helper()
	for node, f := range r.all {
		begin(t, f, owner, o(node), api.OK)
	}
}

// here: what a node's links bring.
func (r *ring) here(node int) (in flows.Ins) {
	for d := range in {
		for hop := range in[d] {
			in[d][hop], _ = r.w.Here(api.Dir(d), node, hop+1)
		}
	}
	return in
}

// tick at a place: each node's.
func (r *ring) tick(place int, says lie) {
	for node, f := range r.all {
		out := f.Tick(place, r.here(node))
		for k := range 4 {
			link := 4*node + k
			r.w.Give(link, says(link, place, out[k/2]))
		}
	}
	r.w.End()
}

// slot from its first place to its last one.
func (r *ring) slot(says lie) {
	for place := range r.c.Long {
		r.tick(place, says)
	}
}

// slotOf an owner, in a ring of its own, whose halves have these offers, the second one with its own as the partner's; what was told of it is asked behind it.
func slotOf(t *testing.T, c api.Config, owner int, o offers, says lie) []*flows.Flow {
	t.Helper()
	r := ringOf(t, c)
	r.begin(t, owner, func(node int) offers {
		if node == halves(c, owner)[1] {
			return offers{o.partner, o.own}
		}
		return o
	})
	if says == nil {
		says = honest
	}
	r.slot(says)
	return r.all
}

// delivered fails unless all others but these heard that, and both halves sent it.
func delivered(t *testing.T, c api.Config, owner int, all []*flows.Flow, p api.Payload, high bool, but ...int) {
	t.Helper()
	for _, node := range others(c, owner) {
		if slices.Contains(but, node) {
			continue
		}
		if got, is := all[node].Heard(); got != p || !is {
			t.Fatalf("%d nodes, owner %d, but %v: node %d heard %+v, %v", c.Nodes, owner, but, node, got, is)
		}
		if got := all[node].High(); high && got != [2]bool{true, true} {
			t.Fatalf("%d nodes, owner %d: node %d is high %v", c.Nodes, owner, node, got)
		}
	}
	for _, node := range halves(c, owner) {
		tells(t, all[node], api.Said{}, said(p), [2]bool{})
	}
}

func TestARingHears(t *testing.T) { // P12.4: each pair's slot of each ring: all others hear just what both halves offer, high both ways
	for _, c := range samples() {
		for owner := range c.Pairs {
			p := api.Payload{Kind: api.PyCommand, Station: 7, Seq: uint32(owner), Value: math.MaxUint32 - uint32(c.Nodes)}
			delivered(t, c, owner, slotOf(t, c, owner, same(p), nil), p, true)
		}
	}
}

func TestARingHearsNothing(t *testing.T) { // P12.4: where the halves' offers are unlike, or one has none, or both
	for _, c := range few() {
		for owner := range c.Pairs {
			for _, o := range manyOffers()[1:5] {
				for _, f := range slotOf(t, c, owner, o, nil) {
					nothing(t, f)
				}
			}
		}
	}
}

func TestARingSlotBySlot(t *testing.T) { // P12.3, P12.4: of the net's owners, without a tick between: what was heard is told till the next one begins, and nothing goes over
	for _, c := range samples() {
		r := ringOf(t, c)
		for i := range 2 * len(c.Slots) {
			owner, p := c.Slots[i%len(c.Slots)], data(uint32(i))
			o := same(p)
			if i%5 == 3 {
				o.partner = api.Said{}
			}
			r.begin(t, owner, func(int) offers { return o })
			for place := range c.Long {
				r.tick(place, honest)
				for _, node := range others(c, owner) {
					first := begins(c, owner, node)
					cw, ccw := o.agreed() && place >= first[0]+113, o.agreed() && place >= first[1]+113
					want := api.Said{}
					if cw || ccw {
						want = said(p)
					}
					tells(t, r.all[node], want, api.Said{}, [2]bool{cw, ccw})
				}
			}
			if o.agreed() {
				delivered(t, c, owner, r.all, p, true)
			}
		}
	}
}

func TestAnythingAheadOfASlotSpoilsNothing(t *testing.T) { // P12.4: what is on its way on each link, as the slot begins, is gone by the time that windows open
	source := rand.New(rand.NewSource(1206))
	for _, c := range few() {
		for owner := range c.Pairs {
			r := ringOf(t, c)
			for range 3 {
				for link := range 4 * c.Nodes {
					r.w.Give(link, anySym(source))
				}
				r.w.End()
			}
			r.begin(t, owner, func(int) offers { return same(data(1)) })
			r.slot(honest)
			delivered(t, c, owner, r.all, data(1), true)
		}
	}
}

// of a node: it gives whatever says, on its four links; all else is honest.
func of(node int, says lie) lie {
	return func(link, place int, x api.Sym) api.Sym {
		if link/4 != node {
			return x
		}
		return says(link, place, x)
	}
}

// lies of many kinds: silence, noise, noise now and then, turned symbols, symbols that are none, good frames of another payload, on some links or all, in that window's time, or later.
func lies(r *rand.Rand, c api.Config, owner, node int) []lie {
	forged := laid(owner, data(666))
	elses := laid((owner+1)%8, data(666))
	first := begins(c, owner, node)
	some, shift, at := r.Intn(16), r.Intn(3), r.Intn(114)
	chosen := func(link int) bool { return some>>(link%4)&1 != 0 }
	forge := func(s syms, link, place int) api.Sym { return shown(s, first[link%4/2], place) }
	turn := func(x api.Sym) api.Sym { return []api.Sym{api.SyOne, api.SyOne, api.SyZero}[x%3] }
	out := []lie{
		func(int, int, api.Sym) api.Sym { return none },
		func(int, int, api.Sym) api.Sym { return anySym(r) },
		func(int, int, api.Sym) api.Sym { return syms{api.SyZero, api.SyOne}[r.Intn(2)] },
		func(_, _ int, x api.Sym) api.Sym { return turn(x) },
		func(int, int, api.Sym) api.Sym { return 3 },
		func(link, place int, _ api.Sym) api.Sym { return forge(forged, link, place) },
		func(link, place int, _ api.Sym) api.Sym { return forge(elses, link, place) },
		func(link, place int, _ api.Sym) api.Sym { return forge(forged, link, place-shift) },
		func(link, place int, _ api.Sym) api.Sym { return forge(forged, link, place+shift) },
		func(link, place int, x api.Sym) api.Sym {
			if place == first[link%4/2]+at {
				return turn(x)
			}
			return x
		},
		func(_, _ int, x api.Sym) api.Sym {
			if r.Intn(60) == 0 {
				return anySym(r)
			}
			return x
		},
		func(_, place int, x api.Sym) api.Sym {
			if place > at {
				return none
			}
			return x
		},
	}
	for _, says := range out[:len(out):len(out)] {
		out = append(out, func(link, place int, x api.Sym) api.Sym {
			if chosen(link) {
				return says(link, place, x)
			}
			return x
		})
	}
	if c.Nodes > 7 { // of great rings, whose slots take long, some alone
		r.Shuffle(len(out), func(i, j int) { out[i], out[j] = out[j], out[i] })
		out = out[:6]
	}
	return out
}

func TestOneOtherNodeGivesWhateverItLikes(t *testing.T) { // P12.4: all others still hear the halves' offer; it hears that, or nothing
	source := rand.New(rand.NewSource(1207))
	for _, c := range few() {
		for owner := range c.Pairs {
			p := data(uint32(owner) + 10)
			for _, liar := range others(c, owner) {
				for _, says := range lies(source, c, owner, liar) {
					all := slotOf(t, c, owner, same(p), of(liar, says))
					delivered(t, c, owner, all, p, false, liar)
					if got, is := all[liar].Heard(); is && got != p {
						t.Fatalf("%d nodes: the liar %d heard %+v", c.Nodes, liar, got)
					}
				}
			}
		}
	}
}

func TestOneOtherNodeTurnsOneSymbol(t *testing.T) { // P12.4: each symbol of each of its links, to each other one
	for _, c := range []api.Config{ringed(4, 120, 0, 2), ringed(4, 120, 1, 3)} {
		for _, liar := range others(c, 1) {
			for k := range 4 {
				for place := begins(c, 1, liar)[k/2] - 1; place <= begins(c, 1, liar)[k/2]+114; place++ {
					for _, y := range kinds() {
						all := slotOf(t, c, 1, same(data(8)), func(link, at int, x api.Sym) api.Sym {
							if link == 4*liar+k && at == place {
								return y
							}
							return x
						})
						delivered(t, c, 1, all, data(8), false)
					}
				}
			}
		}
	}
}

func TestOneLinkIsCut(t *testing.T) { // P12.4: whoever sends on it, if it is no half's: all others hear the frame the other way round
	for _, c := range few() {
		for owner := range c.Pairs {
			for _, node := range others(c, owner) {
				for k := range 4 {
					all := slotOf(t, c, owner, same(data(8)), func(link, _ int, x api.Sym) api.Sym {
						if link == 4*node+k {
							return none
						}
						return x
					})
					delivered(t, c, owner, all, data(8), false)
				}
			}
		}
	}
}

// agree fails if two others heard unlike things, or one something else than that, or anything, if the other half sent nothing.
func agree(t *testing.T, c api.Config, owner, liar int, all []*flows.Flow, sent api.Said) {
	t.Helper()
	for _, node := range others(c, owner) {
		if got, is := all[node].Heard(); is && (!sent.Is || got != sent.P) {
			t.Fatalf("%d nodes, owner %d, half %d lies: node %d heard %+v, the other half sent %+v", c.Nodes, owner, liar, node, got, sent)
		}
		if _, is := all[node].Heard(); is != (all[node].High() != [2]bool{}) {
			t.Fatalf("%d nodes: node %d is high %v, but did it hear? %v", c.Nodes, node, all[node].High(), is)
		}
	}
}

func TestAHalfGivesWhateverItLikes(t *testing.T) { // P12.4: what is heard is what the other half sent
	source := rand.New(rand.NewSource(1208))
	for _, c := range few() {
		for owner := range c.Pairs {
			p := data(uint32(owner) + 10)
			for _, liar := range halves(c, owner) {
				for _, o := range []offers{same(p), {said(p), said(data(666))}, {said(data(666)), said(p)}, {}, {api.Said{}, said(p)}} {
					sent := api.Said{}
					if o.agreed() {
						sent = said(p)
					}
					for _, says := range lies(source, c, owner, liar) {
						agree(t, c, owner, liar, slotOf(t, c, owner, o, of(liar, says)), sent)
					}
				}
			}
		}
	}
}

func TestAHalfTurnsOneSymbol(t *testing.T) { // P12.4: of one link, or of all: nobody hears anything else, and who is behind the guard that tells hears nothing that way
	for _, c := range []api.Config{ringed(4, 120, 1, 3), ringed(5, 121, 0, 2)} {
		for _, liar := range halves(c, 1) {
			for k := range 5 {
				for i := range 114 {
					all := slotOf(t, c, 1, same(data(8)), func(link, at int, x api.Sym) api.Sym {
						if link/4 == liar && (k == 4 || link%4 == k) && at == begins(c, 1, liar)[link%4/2]+i {
							return api.SyZero + api.SyOne - x
						}
						return x
					})
					agree(t, c, 1, liar, all, said(data(8)))
					if k < 4 {
						continue
					}
					for _, node := range others(c, 1) {
						nothing(t, all[node])
					}
				}
			}
		}
	}
}

func TestAHalfIsHeardWithItsPartnerAlone(t *testing.T) { // P12.4: a frame that one half alone sends, on all of its links, is heard by nobody, whichever the other one's is
	for _, c := range samples() {
		for owner := range c.Pairs {
			for _, liar := range halves(c, owner) {
				forged, first := laid(owner, data(666)), begins(c, owner, liar)
				for _, o := range []offers{{}, same(data(1))} {
					all := slotOf(t, c, owner, o, of(liar, func(link, place int, _ api.Sym) api.Sym { return shown(forged, first[link%4/2], place) }))
					for _, node := range others(c, owner) {
						nothing(t, all[node])
					}
				}
				// What is the other half's own frame is heard, though.
				mine := laid(owner, data(1))
				all := slotOf(t, c, owner, same(data(1)), of(liar, func(link, place int, _ api.Sym) api.Sym { return shown(mine, first[link%4/2], place) }))
				delivered(t, c, owner, all, data(1), true)
			}
		}
	}
}

// one of many flows, with what it is in.
type one struct {
	c     api.Config
	f     *flows.Flow
	m     *model // none: it is in no slot
	node  int
	place int
}

// step of one: it begins a slot, is refused one, or goes on.
func (x *one) step(t *testing.T, r *rand.Rand) {
	t.Helper()
	switch k := r.Intn(100); {
	case k == 0:
		begin(t, x.f, len(x.c.Pairs), offers{}, api.ErrArg)
		x.m = nil
	case k < 3:
		owner, o := r.Intn(len(x.c.Pairs)), manyOffers()[r.Intn(5)]
		begin(t, x.f, owner, o, api.OK)
		x.m, x.place = modelled(x.c, x.node, owner, o), 0
	case x.m == nil:
		tick(t, x.f, r.Intn(x.c.Long), babble(r), gift{})
		nothing(t, x.f)
	default:
		in := both(laid(1, data(1)), x.m.begin, x.place)
		tick(t, x.f, x.place, in, x.m.tick(x.place, in))
		x.m.check(t, x.f)
		x.place++
	}
}

func TestFlowsTurnByTurn(t *testing.T) { // R5: each as it would be alone, of one net and of many
	source := rand.New(rand.NewSource(1209))
	all := []*one{}
	for _, c := range few()[:5] {
		n := made(t, c)
		for node := range c.Nodes {
			all = append(all, &one{c: c, f: flow(t, n, node), node: node}, &one{c: c, f: flow(t, n, node), node: node})
		}
	}
	for range 300000 {
		all[source.Intn(len(all))].step(t, source)
	}
}

func TestAFlowCopied(t *testing.T) { // R5: it goes on as one of its own
	c := ringed(4, 120, 0, 2)
	n := made(t, c)
	one, two := laid(0, data(1)), laid(0, data(2))
	for _, till := range []int{0, 3, 4, 50, 100, 117} {
		f := begun(t, n, 3, 0, offers{})
		for place := range till {
			f.Tick(place, both(one, [2]int{4, 3}, place))
		}
		kept := *f
		for place := till; place < 120; place++ {
			f.Tick(place, both(one, [2]int{4, 3}, place))
		}
		heard(t, f, data(1))
		if p, is := kept.Heard(); is != (till >= 117) || is && p != data(1) {
			t.Errorf("copied at %d: %+v, %v", till, p, is)
		}
		for place := till; place < 120; place++ {
			kept.Tick(place, both(one, [2]int{4, 3}, place))
		}
		heard(t, &kept, data(1))
		begin(t, &kept, 0, offers{}, api.OK)
		heard(t, f, data(1))
		for place := range 120 {
			kept.Tick(place, both(two, [2]int{4, 3}, place))
		}
		heard(t, &kept, data(2))
		heard(t, f, data(1))
	}
}

// answers: everything that a net answers, as one text.
func answers(n *configs.Net) string {
	c := n.Given()
	out := strconv.Itoa(c.Nodes) + " " + strconv.Itoa(c.Long) + " " + strconv.Itoa(n.Long)
	for _, list := range [][]int{c.Pairs, c.Slots, c.Boots, n.Pairs, n.Slots, n.Boots} {
		for _, x := range list {
			out += " " + strconv.Itoa(x)
		}
		out += ";"
	}
	return out
}

func TestAFlowKeepsNoNet(t *testing.T) { // R1, R5: no call changes a net, and what becomes of it later changes no flow
	c := ringed(6, 122, 2, 5)
	p, q := data(1), data(2)
	mine, theirs := laid(0, q), laid(1, p)
	for _, other := range []api.Config{{}, ringed(16, 4096, 5, 9), {Nodes: -1, Pairs: []int{99}}, {Nodes: math.MaxInt}} {
		for way := range 3 {
			n := made(t, c)
			was := answers(n)
			f, g := flow(t, n, 0), begun(t, n, 3, 1, offers{})
			if got := answers(n); got != was {
				t.Errorf("%s, was %s", got, was)
			}
			switch way {
			case 0:
				n.Config = other
			case 1:
				n.Pairs[0], n.Pairs[1], n.Slots[0], n.Nodes = 0, 3, 1, 4
			case 2:
				*n = configs.Net{}
			}
			// Node 0 is the second half of the pair 1, and node 3 that of the pair 0.
			begin(t, f, 1, same(p), api.OK)
			along(t, f, c, 0, 1, same(p), func(int) flows.Ins { return flows.Ins{} })
			begin(t, f, 0, same(p), api.OK)
			along(t, f, c, 0, 0, same(p), func(place int) flows.Ins { return both(mine, begins(c, 0, 0), place) })
			heard(t, f, q)
			along(t, g, c, 3, 1, offers{}, func(place int) flows.Ins { return both(theirs, begins(c, 1, 3), place) })
			heard(t, g, p)
			begin(t, g, 0, same(q), api.OK)
			tells(t, g, api.Said{}, said(q), [2]bool{})
			begin(t, g, 2, same(q), api.ErrArg)
		}
	}
}
