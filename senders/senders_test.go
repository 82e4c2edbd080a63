package senders_test

import (
	"math"
	"math/rand"
	"slices"
	"strconv"
	"testing"

	"sennit/api"
	"sennit/bits"
	"sennit/catches"
	"sennit/configs"
	"sennit/frames"
	"sennit/senders"
	"sennit/sums"
	"sennit/windows"
	"sennit/wires"
)

const none = api.SyNone

// ringed: a config of so many nodes, with these pairs, each of which has one slot of so many ticks.
func ringed(nodes, long int, pairs ...int) api.Config {
	c := api.Config{Nodes: nodes, Pairs: pairs, Long: long, Boots: make([]int, nodes), Miss: 3, Good: 3, Fresh: 3}
	for pair := range pairs {
		c.Slots = append(c.Slots, pair)
	}
	return c
}

// made: the net of a config that may be.
func made(t *testing.T, c api.Config) *configs.Net {
	t.Helper()
	n, e := configs.New(c)
	if n == nil || e != api.OK {
		t.Fatalf("configs.New(%+v) = %v, %d", c, n, e)
	}
	return n
}

// samples: of each number of nodes the fewest pairs and the most, some with a pair of the last node and node 0, in the shortest slots and longer ones, and the longest.
func samples() []api.Config {
	out := []api.Config{}
	for nodes := 4; nodes <= 16; nodes++ {
		shortest := nodes + 116
		most, turned := []int{}, []int{}
		for first := 0; first+1 < nodes; first += 2 {
			most = append(most, first)
			turned = append(turned, first+1)
		}
		out = append(out, ringed(nodes, shortest, most...), ringed(nodes, shortest+1, 0, nodes-2), ringed(nodes, 200, 1, nodes-1))
		if nodes%2 == 0 {
			out = append(out, ringed(nodes, shortest, turned...))
		}
	}
	slots := ringed(5, 4096, 1, 4)
	slots.Slots = []int{1, 0, 1, 1, 0}
	return append(out, slots)
}

// second half of a pair whose first one is that.
func second(c api.Config, first int) int {
	if first == c.Nodes-1 {
		return 0
	}
	return first + 1
}

// eachHalf calls f for each half of each pair of each sample.
func eachHalf(t *testing.T, f func(c api.Config, n *configs.Net, owner, node int, later bool)) {
	t.Helper()
	for _, c := range samples() {
		n := made(t, c)
		for owner, first := range c.Pairs {
			f(c, n, owner, first, false)
			f(c, n, owner, second(c, first), true)
		}
	}
}

func data(value uint32) api.Payload {
	return api.Payload{Kind: api.PyData, Station: 200, Seq: 70000, Value: value}
}

func said(p api.Payload) api.Said { return api.Said{Is: true, At: 5, P: p} }

// payloads that may be sent: of both kinds, with the least and the greatest of each part.
func payloads() []api.Payload {
	out := []api.Payload{}
	for _, kind := range []api.Kind{api.PyData, api.PyCommand} {
		for _, station := range []uint8{0, 2, 255} {
			for _, number := range []uint32{0, 3, 1 << 31, math.MaxUint32} {
				out = append(out, api.Payload{Kind: kind, Station: station, Seq: number, Value: ^number})
				out = append(out, api.Payload{Kind: kind, Station: station, Seq: number, Value: number})
			}
		}
	}
	return out
}

// laid: the symbols of a pair's frame with a good tail, as chapter 5 words them.
func laid(owner int, p api.Payload) []api.Sym {
	b := []byte{16*byte(p.Kind) + byte(owner), p.Station}
	for _, x := range []uint32{p.Seq, p.Value} {
		b = append(b, byte(x>>24), byte(x>>16), byte(x>>8), byte(x))
	}
	return append(bits.Of(sums.Put(b)), api.SyOne, api.SyZero)
}

// shown: what is sent of these symbols at a place, if their first one is sent at that one.
func shown(all []api.Sym, begin, place int) api.Sym {
	if place < begin || place >= begin+len(all) {
		return none
	}
	return all[place-begin]
}

// begins: the places of the first symbol, CW and CCW, of a pair's first half, or of its second one.
func begins(later bool) (cw, ccw int) {
	if later {
		return 2, 1
	}
	return 1, 2
}

// places: all of a slot of so many ticks, with those around it, and far ones.
func places(long int) []int {
	out := []int{math.MinInt, math.MinInt + 1, math.MinInt + 2, -1 << 40, -1 << 32, 1<<32 + 1, 1<<32 + 5, 1 << 40, math.MaxInt - 1, math.MaxInt}
	for place := -150; place < long+150; place++ {
		out = append(out, place)
	}
	return out
}

// sender: one that there is.
func sender(t *testing.T, n *configs.Net, node, owner int, own, partner api.Said) *senders.Sender {
	t.Helper()
	s, e := senders.New(n, node, owner, own, partner)
	if s == nil || e != api.OK {
		t.Fatalf("New(%d, %d, %+v, %+v) = %v, %d", node, owner, own, partner, s, e)
	}
	return s
}

// refuse fails if New answers another error, or a sender beside it.
func refuse(t *testing.T, n *configs.Net, node, owner int, own, partner api.Said, want api.Errno) {
	t.Helper()
	if s, e := senders.New(n, node, owner, own, partner); s != nil || e != want {
		t.Errorf("New(%d, %d, %+v, %+v) = %v, %d, want error %d alone", node, owner, own, partner, s, e, want)
	}
}

// out fails if a sender gives anything else at a place.
func out(t *testing.T, s *senders.Sender, place int, cw, ccw api.Sym) {
	t.Helper()
	if a, b := s.Out(place); a != cw || b != ccw {
		t.Errorf("Out(%d) = %d, %d, want %d, %d", place, a, b, cw, ccw)
	}
}

// sends fails if a sender tells anything else of what it sends.
func sends(t *testing.T, s *senders.Sender, p api.Payload) {
	t.Helper()
	if got, is := s.Sends(); got != p || !is {
		t.Errorf("Sends() = %+v, %v, want %+v, true", got, is, p)
	}
}

// gives fails if a half gives at any of these places anything but that payload's frame, each way in its time, or tells anything else.
func gives(t *testing.T, s *senders.Sender, owner int, later bool, p api.Payload, all []int) {
	t.Helper()
	frame := laid(owner, p)
	cw, ccw := begins(later)
	sends(t, s, p)
	for _, place := range all {
		out(t, s, place, shown(frame, cw, place), shown(frame, ccw, place))
	}
	sends(t, s, p)
}

// silent fails if a sender gives, or tells, anything at all.
func silent(t *testing.T, s *senders.Sender) {
	t.Helper()
	for range 2 {
		if p, is := s.Sends(); p != (api.Payload{}) || is {
			t.Errorf("Sends() = %+v, %v, want nothing", p, is)
		}
		for _, place := range places(132) {
			out(t, s, place, none, none)
		}
	}
}

func TestAsTheDocumentHasIt(t *testing.T) { // P11.1 to P11.3: its examples
	n := made(t, ringed(4, 120, 0, 2))
	// 16 times the kind, and the owner: 0 0 1 0 0 0 0 0 begin the frame of a command of the pair 0.
	v := api.Payload{Kind: api.PyCommand, Station: 2, Seq: 3, Value: 4}
	s := sender(t, n, 0, 0, said(v), said(v))
	sends(t, s, v)
	out(t, s, 0, none, none)
	out(t, s, 1, api.SyZero, none)
	out(t, s, 2, api.SyZero, api.SyZero)
	out(t, s, 3, api.SyOne, api.SyZero)
	out(t, s, 4, api.SyZero, api.SyOne)
	w := v
	w.Value = 5
	silent(t, sender(t, n, 0, 0, said(v), said(w)))
}

func TestHalvesSendTheirOfferTickByTick(t *testing.T) { // P11.1 to P11.3: each half of each pair of each ring, at each place
	eachHalf(t, func(c api.Config, n *configs.Net, owner, node int, later bool) {
		p := api.Payload{Kind: api.PyCommand, Station: uint8(node), Seq: uint32(owner) << 29, Value: uint32(c.Nodes) << 20}
		gives(t, sender(t, n, node, owner, said(p), said(p)), owner, later, p, places(c.Long))
	})
}

func TestEachPayload(t *testing.T) { // P11.1 to P11.3: of both kinds, with each part's least and greatest
	n := made(t, ringed(7, 123, 1, 3, 6))
	for _, p := range payloads() {
		gives(t, sender(t, n, 3, 1, said(p), said(p)), 1, false, p, places(123))
		gives(t, sender(t, n, 0, 2, said(p), said(p)), 2, true, p, places(123))
	}
}

func TestAWindowsEdges(t *testing.T) { // P11.2: the slot's places 0, 1 and its last one, and those about each window's first one and its last one, each way
	n := made(t, ringed(4, 120, 1, 3))
	p := data(9)
	frame := laid(1, p)
	first, last := sender(t, n, 3, 1, said(p), said(p)), sender(t, n, 0, 1, said(p), said(p))
	for _, c := range []struct {
		place       int
		early, late api.Sym
	}{
		{math.MinInt, none, none}, {-114, none, none}, {-1, none, none}, {0, none, none},
		{1, frame[0], none}, {2, frame[1], frame[0]}, {3, frame[2], frame[1]},
		{112, frame[111], frame[110]}, {113, api.SyOne, frame[111]}, {114, api.SyZero, api.SyOne}, {115, none, api.SyZero},
		{116, none, none}, {119, none, none}, {120, none, none}, {121, none, none}, {240, none, none}, {math.MaxInt, none, none},
	} {
		out(t, first, c.place, c.early, c.late)
		out(t, last, c.place, c.late, c.early)
	}
}

func TestPlacesInWhateverOrder(t *testing.T) { // P11.2: each as it is, whatever was asked ahead of it, and again
	n := made(t, ringed(6, 122, 2, 5))
	p := data(77)
	s := sender(t, n, 0, 1, said(p), said(p))
	source := rand.New(rand.NewSource(11))
	all := places(122)
	for range 20 {
		source.Shuffle(len(all), func(i, j int) { all[i], all[j] = all[j], all[i] })
		gives(t, s, 1, true, p, all)
	}
	slices.Sort(all)
	slices.Reverse(all)
	gives(t, s, 1, true, p, all)
	for _, place := range all {
		gives(t, s, 1, true, p, []int{place, place, place})
	}
}

func TestOffersUnlikeInOnePartAlone(t *testing.T) { // P11.1 to P11.4: by one bit of it, whichever offer has it
	n := made(t, ringed(5, 125, 1, 4))
	for _, p := range []api.Payload{data(0), {Kind: api.PyCommand}, {Kind: api.PyCommand, Station: 255, Seq: math.MaxUint32, Value: math.MaxUint32}} {
		unlike := []api.Payload{}
		for bit := range 32 {
			kind, station, seq, value := p, p, p, p
			kind.Kind ^= 1 << (bit % 8)
			station.Station ^= 1 << (bit % 8)
			seq.Seq ^= 1 << bit
			value.Value ^= 1 << bit
			unlike = append(unlike, kind, station, seq, value)
		}
		for _, other := range unlike {
			silent(t, sender(t, n, 4, 1, said(p), said(other)))
			silent(t, sender(t, n, 4, 1, said(other), said(p)))
			silent(t, sender(t, n, 0, 1, said(p), said(other)))
			silent(t, sender(t, n, 0, 1, said(other), said(p)))
		}
	}
}

func TestOffersUnlikeInAll(t *testing.T) { // P11.1 to P11.4: whatever two offers are
	n := made(t, ringed(5, 125, 1, 4))
	for _, p := range payloads() {
		for _, q := range payloads() {
			if s := sender(t, n, 1, 0, said(p), said(q)); p != q {
				silent(t, s)
			} else {
				sends(t, s, p)
			}
		}
	}
}

func TestOffersThatAreNone(t *testing.T) { // P11.1 to P11.4: own, the partner's, or both, even if a payload is left in what says that there is none
	n := made(t, ringed(16, 132, 0, 2, 4, 6, 8, 10, 12, 14))
	for _, p := range []api.Payload{data(3), {}, {Kind: api.PyCommand}, {Kind: 3}, {Kind: 255}} {
		is, left := said(p), api.Said{At: 5, P: p}
		for _, node := range []int{14, 15} {
			for _, no := range []api.Said{{}, left, {At: 1}} {
				silent(t, sender(t, n, node, 7, is, no))
				silent(t, sender(t, n, node, 7, no, is))
				silent(t, sender(t, n, node, 7, no, no))
				silent(t, sender(t, n, node, 7, no, api.Said{}))
				silent(t, sender(t, n, node, 7, left, no))
			}
		}
	}
}

func TestWhenAnOfferWasMadeIsNotLookedAt(t *testing.T) { // P11.1: At of both
	n := made(t, ringed(4, 120, 0, 2))
	p := data(1)
	rounds := []int64{0, 1, -1, 5, 1 << 32, api.MaxAge, api.MaxAge + 1, math.MaxInt64, math.MinInt64}
	for _, at := range rounds {
		for _, other := range rounds {
			own, partner := api.Said{Is: true, At: at, P: p}, api.Said{Is: true, At: other, P: p}
			gives(t, sender(t, n, 2, 1, own, partner), 1, false, p, places(120))
			gives(t, sender(t, n, 3, 1, own, partner), 1, true, p, places(120))
		}
	}
}

func TestEachKind(t *testing.T) { // P11.1: others than the two are refused where they would be sent, and there alone
	n := made(t, ringed(4, 120, 0, 2))
	for kind := range 256 {
		p := data(6)
		p.Kind = api.Kind(kind)
		other := p
		other.Value++
		for node := range 2 {
			if p.Kind == 1 || p.Kind == 2 {
				gives(t, sender(t, n, node, 0, said(p), said(p)), 0, node == 1, p, places(120))
			} else {
				refuse(t, n, node, 0, said(p), said(p), api.ErrArg)
			}
			for _, unlike := range []api.Said{{}, {P: p}, said(other)} {
				silent(t, sender(t, n, node, 0, said(p), unlike))
				silent(t, sender(t, n, node, 0, unlike, said(p)))
			}
		}
	}
	refuse(t, n, 0, 0, said(api.Payload{}), said(api.Payload{}), api.ErrArg)
}

// offers: the same, unlike, none, and the same of a kind that may not be.
func offers() [][2]api.Said {
	odd := api.Payload{Kind: 3}
	return [][2]api.Said{{said(data(1)), said(data(1))}, {said(data(1)), said(data(2))}, {said(data(1)), {}}, {{}, said(data(1))}, {}, {said(odd), said(odd)}, {said(odd), {}}}
}

// beyond: numbers of which there is none, where there are so many: the last one's next, and others around, ones that would wrap round among them.
func beyond(many int) []int {
	return []int{-1, many, many + 1, -2, -many, -many - 1, 2 * many, 100, 255, 256, 1 << 32, 1<<32 + 1, -1 << 32, math.MaxInt, math.MaxInt - 1, math.MinInt, math.MinInt + 1}
}

func TestWhoIsNoHalf(t *testing.T) { // P11.1: a guard, a relay, another pair's half, whatever the offers are
	for _, c := range samples() {
		n := made(t, c)
		for owner, first := range c.Pairs {
			for node := range c.Nodes {
				if node == first || node == second(c, first) {
					continue
				}
				for _, o := range offers() {
					refuse(t, n, node, owner, o[0], o[1], api.ErrArg)
				}
			}
		}
	}
}

func TestNoSuchNodesAndPairs(t *testing.T) { // P11.1: each alone, and both; of a node in no pair, too
	for _, c := range samples() {
		n := made(t, c)
		for _, o := range offers() {
			for _, owner := range beyond(len(c.Pairs)) {
				for node := range c.Nodes {
					refuse(t, n, node, owner, o[0], o[1], api.ErrArg)
				}
			}
			for _, node := range beyond(c.Nodes) {
				for owner := range c.Pairs {
					refuse(t, n, node, owner, o[0], o[1], api.ErrArg)
				}
				for _, owner := range beyond(len(c.Pairs)) {
					refuse(t, n, node, owner, o[0], o[1], api.ErrArg)
				}
			}
		}
	}
}

func TestOfNoNet(t *testing.T) { // P11.1, R2, R3: whatever else is wrong, that there is none is told first
	for name, n := range map[string]*configs.Net{"nil": nil, "empty": {}, "by hand": {Config: ringed(4, 120, 0, 2)}, "of nodes": {Config: api.Config{Nodes: 6}}} {
		t.Run(name, func(t *testing.T) {
			for _, o := range offers() {
				for _, node := range append(beyond(4), 0, 1, 2, 3) {
					for _, owner := range append(beyond(2), 0, 1) {
						refuse(t, n, node, owner, o[0], o[1], api.ErrNil)
					}
				}
			}
		})
	}
}

func TestSendersThatAreNone(t *testing.T) { // P11.2, P11.3, R3: one that is not there, or that no call made, is silent
	silent(t, nil)
	silent(t, &senders.Sender{})
	silent(t, new(senders.Sender))
	refused, _ := senders.New(nil, 0, 0, said(data(1)), said(data(1)))
	silent(t, refused)
}

// heard: what a sender gives in a slot of so many ticks, by directions, and the places where it does.
func heard(s *senders.Sender, long int) (syms [2][]api.Sym, at [2][]int) {
	for place := range long {
		cw, ccw := s.Out(place)
		for d, x := range []api.Sym{cw, ccw} {
			if x != none {
				syms[d], at[d] = append(syms[d], x), append(at[d], place)
			}
		}
	}
	return syms, at
}

// inWindow fails unless something is given just in a node's window.
func inWindow(t *testing.T, n *configs.Net, d api.Dir, owner, node int, at []int) {
	t.Helper()
	w, e := windows.Of(n, d, owner, node)
	if e != api.OK || len(at) != api.FrameLong || at[0] != w.Begin || at[len(at)-1] != w.End-1 {
		t.Errorf("node %d, direction %d: given at %v, the window is %v, %d", node, d, at, w, e)
	}
}

func TestBothHalvesSendTheSameFrame(t *testing.T) { // P11.4: symbol by symbol, with a good tail, each in its window, one a tick later than the other
	for _, c := range samples() {
		n := made(t, c)
		for owner, first := range c.Pairs {
			p := data(uint32(first))
			a := sender(t, n, first, owner, said(p), said(p))
			b := sender(t, n, second(c, first), owner, said(p), api.Said{Is: true, P: p})
			if x, is := a.Sends(); !is || x != p {
				t.Errorf("Sends() = %+v, %v", x, is)
			}
			syms, at := heard(a, c.Long)
			others, later := heard(b, c.Long)
			for d := range api.Dir(2) {
				f, tail, e := frames.Read(syms[d])
				if e != api.OK || !tail.Good() || f != (frames.Frame{Owner: owner, Payload: p}) {
					t.Errorf("Read = %+v, %+v, %d", f, tail, e)
				}
				if !slices.Equal(syms[d], others[d]) {
					t.Errorf("%v, but of the other half %v", syms[d], others[d])
				}
				inWindow(t, n, d, owner, first, at[d])
				inWindow(t, n, d, owner, second(c, first), later[d])
			}
			// The second half is the later one CW, the first half CCW.
			for i := range at[0] {
				if later[0][i] != at[0][i]+1 || at[1][i] != later[1][i]+1 {
					t.Fatalf("symbol %d: %d, then %d CW; %d, then %d CCW", i, at[0][i], later[0][i], later[1][i], at[1][i])
				}
			}
		}
	}
}

// carried: what both guards' catches have of a slot, to which the halves give what they send, over all links.
func carried(t *testing.T, c api.Config, owner int, halves map[int]*senders.Sender) [2]*catches.Catch {
	t.Helper()
	w, e := wires.New[api.Sym](c.Nodes)
	if e != api.OK {
		t.Fatal(e)
	}
	first := c.Pairs[owner]
	guards := [2]int{second(c, second(c, first)), (first + c.Nodes - 1) % c.Nodes}
	all := [2]*catches.Catch{}
	for d := range all {
		all[d], _ = catches.New(owner)
	}
	for place := range c.Long {
		for node, s := range halves {
			cw, ccw := s.Out(place)
			for hop := range 2 {
				w.Give(4*node+hop, cw)
				w.Give(4*node+2+hop, ccw)
			}
		}
		for d, node := range guards {
			// A guard's window is open from place 3 on.
			if place >= 3 && place < 3+api.FrameLong {
				near, _ := w.Here(api.Dir(d), node, 1)
				far, _ := w.Here(api.Dir(d), node, 2)
				all[d].Step(near, far)
			}
		}
		w.End()
	}
	return all
}

func TestGuardsHearBothHalvesTickByTick(t *testing.T) { // P11.4: with the same offers they are high; with others nothing was sent at all
	for _, c := range samples() {
		n := made(t, c)
		for owner, first := range c.Pairs {
			p, q := said(data(uint32(owner))), said(data(100))
			for _, o := range []struct {
				own, partner api.Said
				high         bool
			}{{p, p, true}, {p, q, false}, {p, api.Said{}, false}, {api.Said{}, api.Said{}, false}} {
				halves := map[int]*senders.Sender{
					first:            sender(t, n, first, owner, o.own, o.partner),
					second(c, first): sender(t, n, second(c, first), owner, o.partner, o.own),
				}
				for d, k := range carried(t, c, owner, halves) {
					want := frames.Frame{}
					if o.high {
						want = frames.Frame{Owner: owner, Payload: p.P}
					}
					if f, high := k.High(); f != want || high != o.high {
						t.Errorf("direction %d: %+v, %v, want %+v, %v", d, f, high, want, o.high)
					}
					if !o.high && k.Unlike() != 0 {
						t.Errorf("direction %d: something was sent, up to %d", d, k.Unlike())
					}
				}
			}
		}
	}
}

// told: everything that a sender tells and gives, as one text.
func told(s *senders.Sender) string {
	p, is := s.Sends()
	text := []byte{}
	for _, x := range []uint32{uint32(p.Kind), uint32(p.Station), p.Seq, p.Value} {
		text = append(strconv.AppendUint(text, uint64(x), 10), ' ')
	}
	text = strconv.AppendBool(text, is)
	for place := -3; place < 140; place++ {
		cw, ccw := s.Out(place)
		text = append(text, '0'+byte(cw), '0'+byte(ccw))
	}
	return string(text)
}

func TestSendersTurnByTurn(t *testing.T) { // R5: what one gives changes nothing of another one, however they are asked
	all := []*senders.Sender{nil, {}}
	eachHalf(t, func(c api.Config, n *configs.Net, owner, node int, later bool) {
		p, q := said(data(uint32(node))), said(data(99))
		all = append(all, sender(t, n, node, owner, p, p), sender(t, n, node, owner, p, q), sender(t, n, node, owner, q, q))
	})
	alone := []string{}
	for _, s := range all {
		alone = append(alone, told(s))
	}
	source := rand.New(rand.NewSource(12))
	for range 2000 {
		i, j, place := source.Intn(len(all)), source.Intn(len(all)), source.Intn(140)
		all[j].Out(place)
		if got := told(all[i]); got != alone[i] {
			t.Fatalf("sender %d: %s, and then %s", i, alone[i], got)
		}
	}
}

func TestASenderKeepsNoNet(t *testing.T) { // R1, R5: no call changes a net, and what becomes of its config changes no sender, made ahead of it or behind
	c := ringed(6, 122, 2, 5)
	p, q := said(data(1)), said(data(2))
	for _, other := range []api.Config{{}, ringed(16, 4096, 5, 9), {Nodes: -1, Pairs: []int{99}}, {Nodes: math.MaxInt}} {
		n := made(t, c)
		ahead := sender(t, n, 0, 1, p, p)
		n.Config = other
		behind := sender(t, n, 0, 1, p, p)
		for _, s := range []*senders.Sender{ahead, behind} {
			gives(t, s, 1, true, p.P, places(122))
		}
		refuse(t, n, 1, 1, p, p, api.ErrArg)
		refuse(t, n, 0, 2, p, q, api.ErrArg)
		silent(t, sender(t, n, 0, 1, p, q))
		if given := n.Given(); !slices.Equal(given.Pairs, c.Pairs) || given.Nodes != 6 || given.Long != 122 || !slices.Equal(given.Slots, c.Slots) {
			t.Errorf("%+v, was %+v", given, c)
		}
	}
}

func TestASenderCopied(t *testing.T) { // R5: it goes on as the one that it was copied of
	n := made(t, ringed(4, 120, 0, 2))
	p, q := data(1), data(2)
	s := sender(t, n, 1, 0, said(p), said(p))
	kept := *s
	*s = *sender(t, n, 2, 1, said(q), said(q))
	gives(t, &kept, 0, true, p, places(120))
	gives(t, s, 1, false, q, places(120))
	*s = senders.Sender{}
	silent(t, s)
	gives(t, &kept, 0, true, p, places(120))
}
