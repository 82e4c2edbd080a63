package catches_test

import (
	"math"
	"math/rand"
	"slices"
	"testing"

	"sennit/api"
	"sennit/bits"
	"sennit/catches"
	"sennit/frames"
	"sennit/sums"
)

type syms = []api.Sym

// pair of symbols, as a catch is given them.
type pair struct{ near, far api.Sym }

// alike: the same, and not none.
func (p pair) alike() bool { return p.near == p.far && p.near != api.SyNone }

// model of a catch, as the document words it: all that it was given, of which each answer is told anew.
type model struct {
	owner int
	had   []pair
}

// counted: the symbol as which one counts.
func counted(x api.Sym) api.Sym {
	if x == api.SyZero || x == api.SyOne {
		return x
	}
	return api.SyNone
}

func (m *model) step(near, far api.Sym) api.Sym {
	if len(m.had) == api.FrameLong {
		return api.SyNone
	}
	m.had = append(m.had, pair{counted(near), counted(far)})
	i := len(m.had) - 1
	p := m.had[i]
	switch {
	case slices.Contains(m.had[:min(i+1, api.FrameBits)], pair{}):
		return api.SyNone
	case i < api.FrameBits && p.near != api.SyNone:
		return p.near
	case i < api.FrameBits:
		return p.far
	case i == api.FrameBits && m.whole(), i > api.FrameBits && !m.high():
		return api.SyOne
	}
	return api.SyZero
}

// frame of near's body, if it is one of the owner.
func (m *model) frame() (frames.Frame, bool) {
	b := make([]byte, api.FrameBytes)
	for i, p := range m.had[:api.FrameBits] {
		if p.near == api.SyOne {
			b[i/8] |= 128 >> (i % 8)
		}
	}
	f, e := frames.Get(b)
	return f, e == api.OK && f.Owner == m.owner
}

func (m *model) whole() bool {
	for _, p := range m.had[:api.FrameBits] {
		if !p.alike() {
			return false
		}
	}
	_, is := m.frame()
	return is && m.had[api.FrameBits] == pair{api.SyOne, api.SyOne}
}

func (m *model) high() bool {
	return len(m.had) == api.FrameLong && m.whole() && m.had[api.FrameLong-1] == pair{api.SyZero, api.SyZero}
}

func (m *model) unlike() int {
	return slices.IndexFunc(m.had, func(p pair) bool { return !p.alike() })
}

// check fails if a catch answers anything otherwise than its model, when asked, and when asked again.
func (m *model) check(t *testing.T, c *catches.Catch) {
	t.Helper()
	var f frames.Frame
	high := m.high()
	if high {
		f, _ = m.frame()
	}
	answers(t, c, len(m.had), f, high, m.unlike())
}

// answers fails if a catch answers anything else, when asked, and when asked again.
func answers(t *testing.T, c *catches.Catch, had int, f frames.Frame, high bool, unlike int) {
	t.Helper()
	for range 3 {
		if got := c.Had(); got != had {
			t.Fatalf("Had() = %d, want %d", got, had)
		}
		if got, is := c.High(); got != f || is != high {
			t.Fatalf("behind %d pairs: High() = %+v, %v, want %+v, %v", had, got, is, f, high)
		}
		if got := c.Unlike(); got != unlike {
			t.Fatalf("behind %d pairs: Unlike() = %d, want %d", had, got, unlike)
		}
	}
}

// made: a catch of an owner's frame, and its model.
func made(t *testing.T, owner int) (*catches.Catch, *model) {
	t.Helper()
	c, e := catches.New(owner)
	if c == nil || e != api.OK {
		t.Fatalf("New(%d) = %v, %d", owner, c, e)
	}
	return c, &model{owner: owner}
}

// step fails if a catch gives another symbol for a pair than its model.
func step(t *testing.T, c *catches.Catch, m *model, near, far api.Sym) api.Sym {
	t.Helper()
	want := m.step(near, far)
	out := c.Step(near, far)
	if out != want {
		t.Fatalf("behind %d pairs, with the last one: Step(%d, %d) = %d, want %d", len(m.had), near, far, out, want)
	}
	return out
}

// run: a catch that has taken all of both, asked behind each pair, and what it gave.
func run(t *testing.T, owner int, near, far syms) (*catches.Catch, syms) {
	t.Helper()
	c, m := made(t, owner)
	m.check(t, c)
	out := syms{}
	for i := range near {
		out = append(out, step(t, c, m, near[i], far[i]))
		m.check(t, c)
	}
	return c, out
}

// gives fails if a catch that takes all of both gives other symbols, or answers otherwise behind them.
func gives(t *testing.T, owner int, near, far, want syms, f frames.Frame, high bool, unlike int) {
	t.Helper()
	c, out := run(t, owner, near, far)
	if !slices.Equal(out, want) {
		t.Errorf("out is %v, want %v", out, want)
	}
	answers(t, c, min(len(near), api.FrameLong), f, high, unlike)
}

// low fails if a catch that takes all of both gives other symbols, is high, or tells another pair as unlike.
func low(t *testing.T, owner int, near, far, want syms, unlike int) {
	t.Helper()
	gives(t, owner, near, far, want, frames.Frame{}, false, unlike)
}

func frame(owner int) frames.Frame {
	return frames.Frame{Owner: owner, Payload: api.Payload{Kind: api.PyCommand, Station: 2, Seq: 3, Value: 4}}
}

// samples of an owner's frames, with stations and numbers at their edges and between.
func samples(owner int) []frames.Frame {
	out := []frames.Frame{frame(owner)}
	for _, kind := range []api.Kind{api.PyData, api.PyCommand} {
		for i, n := range []uint32{0, 1, 255, 256, 0x01020304, 1 << 31, math.MaxUint32} {
			for _, p := range []api.Payload{{Seq: n}, {Station: 255, Value: n}, {Station: uint8(37 * i), Seq: n, Value: ^n}} {
				p.Kind = kind
				out = append(out, frames.Frame{Owner: owner, Payload: p})
			}
		}
	}
	return out
}

// sent: a frame's symbols with a tail.
func sent(t *testing.T, f frames.Frame, tail frames.Tail) syms {
	t.Helper()
	s, e := frames.Syms(f, tail)
	if e != api.OK {
		t.Fatal(f, e)
	}
	return s
}

// good: a frame's symbols with a good tail.
func good(t *testing.T, f frames.Frame) syms {
	t.Helper()
	return sent(t, f, frames.Tail{Whole: true})
}

// with: symbols with another one at a place.
func with(s syms, at int, x api.Sym) syms {
	out := slices.Clone(s)
	out[at] = x
	return out
}

// all the same symbol.
func all(x api.Sym) syms {
	return slices.Repeat(syms{x}, api.FrameLong)
}

// tailed: the body of symbols, with others behind it.
func tailed(s syms, tail ...api.Sym) syms {
	return append(slices.Clone(s[:api.FrameBits]), tail...)
}

// lost: a body with the tail of what is not whole.
func lost(s syms) syms {
	return tailed(s, api.SyZero, api.SyOne)
}

// odd symbols: that are not whole, with none as the first one.
func odd() syms { return syms{api.SyNone, 3, 4, 5, 127, 128, 129, 130, 254, 255} }

// edges: places at which a body, or a tail, begins or ends, and one within.
func edges() []int { return []int{0, 1, 7, 8, 60, 110, 111, 112, 113} }

func TestNew(t *testing.T) { // P9.1
	for owner := range api.MaxPairs {
		c, _ := made(t, owner)
		answers(t, c, 0, frames.Frame{}, false, -1)
	}
	for _, owner := range []int{math.MinInt, math.MinInt32, -256, -8, -2, -1, api.MaxPairs, 9, 15, 16, 255, 256, 257, 1 << 32, math.MaxInt} {
		c, e := catches.New(owner)
		if c != nil || e != api.ErrArg {
			t.Errorf("New(%d) = %v, %d, want nothing and ErrArg", owner, c, e)
		}
	}
}

func TestHighOfWhatBothHave(t *testing.T) { // P9.2, P9.3, P9.4: frames of each owner
	for owner := range api.MaxPairs {
		for _, f := range samples(owner) {
			s := good(t, f)
			gives(t, owner, s, s, s, f, true, -1)
		}
	}
}

func TestTheExample(t *testing.T) {
	s := good(t, frame(1))
	gives(t, 1, s, s, s, frame(1), true, -1)
	low(t, 1, all(api.SyNone), s, lost(s), 0)
	low(t, 1, s, all(api.SyNone), lost(s), 0)
}

func TestOneIsNoneThroughout(t *testing.T) { // P9.2, P9.3: whatever is not whole counts as none
	for owner := range api.MaxPairs {
		s := good(t, frame(owner))
		for _, x := range odd() {
			low(t, owner, all(x), s, lost(s), 0)
			low(t, owner, s, all(x), lost(s), 0)
			for _, y := range odd() {
				low(t, owner, all(x), all(y), all(api.SyNone), 0)
			}
		}
	}
}

func TestAnyPairAtAnyPlace(t *testing.T) { // P9.2, P9.3, P9.4: the others as they should be
	s := good(t, frame(5))
	some := syms{api.SyNone, api.SyZero, api.SyOne, 3, 4, 254, 255}
	for at := range api.FrameLong {
		for _, near := range some {
			for _, far := range some {
				c, _ := run(t, 5, with(s, at, near), with(s, at, far))
				if _, high := c.High(); high != (near == s[at] && far == s[at]) {
					t.Errorf("with %d and %d at %d, where %d should be: high is %v", near, far, at, s[at], high)
				}
			}
		}
	}
}

func TestOneIsNoneAtAPlace(t *testing.T) { // P9.2, P9.3: within the body the other one goes out
	s := good(t, frame(3))
	for at := range api.FrameLong {
		want, n := lost(s), at
		if at == api.FrameLong-1 {
			want = tailed(s, api.SyOne, api.SyOne)
		}
		for _, x := range odd() {
			low(t, 3, with(s, at, x), s, want, n)
			low(t, 3, s, with(s, at, x), want, n)
		}
	}
}

func TestOneIsTurnedAtAPlace(t *testing.T) { // P9.2, P9.3: near goes out, whether it or far is the right one
	s := good(t, frame(3))
	for at := range api.FrameLong {
		x := bits.Turn(s, at)
		switch at {
		case api.FrameLong - 1:
			low(t, 3, x, s, tailed(s, api.SyOne, api.SyOne), at)
			low(t, 3, s, x, tailed(s, api.SyOne, api.SyOne), at)
		default:
			low(t, 3, x, s, lost(x), at)
			low(t, 3, s, x, lost(s), at)
		}
	}
}

func TestCutOff(t *testing.T) { // P9.2, P9.3: from there on none, in the tail too
	s := good(t, frame(6))
	for at := range api.FrameBits {
		want := slices.Clone(s)
		clear(want[at:])
		for _, x := range odd() {
			for _, y := range odd() {
				low(t, 6, with(s, at, x), with(s, at, y), want, at)
			}
		}
	}
}

func TestCutOffAtSeveralPlaces(t *testing.T) { // P9.2, P9.3: the first one counts, and what was unlike ahead of it
	s := good(t, frame(6))
	near, far := with(with(s, 9, api.SyNone), 50, 5), with(with(s, 9, api.SyNone), 50, api.SyNone)
	want := slices.Clone(s)
	clear(want[9:])
	low(t, 6, near, far, want, 9)
	near = with(near, 2, api.SyNone)
	low(t, 6, near, far, want, 2)
	low(t, 6, far, near, want, 2)
	low(t, 6, with(near, 9, s[9]), far, append(slices.Clone(s[:50]), all(api.SyNone)[50:]...), 2)
}

func TestBothAreNoneInTheTail(t *testing.T) { // P9.2, P9.3: it is not cut off by that
	s := good(t, frame(6))
	for _, x := range odd() {
		for _, y := range odd() {
			low(t, 6, with(s, 112, x), with(s, 112, y), lost(s), 112)
			low(t, 6, with(s, 113, x), with(s, 113, y), tailed(s, api.SyOne, api.SyOne), 113)
			low(t, 6, tailed(s, x, x), tailed(s, y, y), lost(s), 112)
		}
	}
}

func TestEachTailOnEach(t *testing.T) { // P9.2, P9.3, P9.4
	no, yes := api.SyZero, api.SyOne
	for _, x := range []struct{ near, far, out frames.Tail }{
		{frames.Tail{Whole: false, Unlike: false}, frames.Tail{Whole: false, Unlike: false}, frames.Tail{Whole: false, Unlike: true}},
		{frames.Tail{Whole: false, Unlike: false}, frames.Tail{Whole: false, Unlike: true}, frames.Tail{Whole: false, Unlike: true}},
		{frames.Tail{Whole: false, Unlike: false}, frames.Tail{Whole: true, Unlike: false}, frames.Tail{Whole: false, Unlike: true}},
		{frames.Tail{Whole: false, Unlike: false}, frames.Tail{Whole: true, Unlike: true}, frames.Tail{Whole: false, Unlike: true}},
		{frames.Tail{Whole: false, Unlike: true}, frames.Tail{Whole: false, Unlike: true}, frames.Tail{Whole: false, Unlike: true}},
		{frames.Tail{Whole: false, Unlike: true}, frames.Tail{Whole: true, Unlike: false}, frames.Tail{Whole: false, Unlike: true}},
		{frames.Tail{Whole: false, Unlike: true}, frames.Tail{Whole: true, Unlike: true}, frames.Tail{Whole: false, Unlike: true}},
		{frames.Tail{Whole: true, Unlike: false}, frames.Tail{Whole: true, Unlike: false}, frames.Tail{Whole: true, Unlike: false}},
		{frames.Tail{Whole: true, Unlike: false}, frames.Tail{Whole: true, Unlike: true}, frames.Tail{Whole: true, Unlike: true}},
		{frames.Tail{Whole: true, Unlike: true}, frames.Tail{Whole: true, Unlike: true}, frames.Tail{Whole: true, Unlike: true}},
	} {
		unlike := -1
		switch {
		case x.near.Whole != x.far.Whole:
			unlike = 112
		case x.near.Unlike != x.far.Unlike:
			unlike = 113
		}
		for owner := range api.MaxPairs {
			f := frame(owner)
			near, far, out := sent(t, f, x.near), sent(t, f, x.far), tailed(good(t, f), no, no)
			if x.out.Whole {
				out[112] = yes
			}
			if x.out.Unlike {
				out[113] = yes
			}
			if x.out.Good() {
				gives(t, owner, near, far, out, f, true, unlike)
				continue
			}
			low(t, owner, near, far, out, unlike)
			low(t, owner, far, near, out, unlike)
		}
	}
}

func TestBothHaveAnotherOwnersFrame(t *testing.T) { // P9.2, P9.3, P9.4
	for owner := range api.MaxPairs {
		for other := range api.MaxPairs {
			s := good(t, frame(other))
			if other == owner {
				gives(t, owner, s, s, s, frame(owner), true, -1)
				continue
			}
			low(t, owner, s, s, lost(s), -1)
			own := good(t, frame(owner))
			at := 4 // of the first byte's last four symbols, which tell the owner
			for s[at] == own[at] {
				at++
			}
			low(t, owner, s, own, lost(s), at)
			low(t, owner, own, s, lost(own), at)
		}
	}
}

func TestBothHaveWhatIsNoFrame(t *testing.T) { // P9.2, P9.3, P9.4: summed, but of no owner, or no kind
	for first := range 256 {
		s := tailed(bits.Of(sums.Put([]byte{byte(first), 2, 0, 0, 0, 3, 0, 0, 0, 4})), api.SyOne, api.SyZero)
		for owner := range api.MaxPairs {
			if first == 16*int(api.PyData)+owner || first == 16*int(api.PyCommand)+owner {
				f := frame(owner)
				f.Kind = api.Kind(first / 16)
				gives(t, owner, s, s, s, f, true, -1)
				continue
			}
			low(t, owner, s, s, lost(s), -1)
		}
	}
	for _, body := range []syms{all(api.SyZero), all(api.SyOne)} {
		s := tailed(body, api.SyOne, api.SyZero)
		low(t, 0, s, s, lost(s), -1)
	}
}

func TestBothHaveAnotherSum(t *testing.T) { // P9.2, P9.3, P9.4: the same symbols turned on both
	s := good(t, frame(2))
	for at := range api.FrameBits {
		x := bits.Turn(s, at)
		low(t, 2, x, x, lost(x), -1)
		x = bits.Turn(x, (at+31)%api.FrameBits)
		low(t, 2, x, x, lost(x), -1)
	}
	inverse := bits.Of(sums.Put([]byte{33, 2, 0, 0, 0, 3, 0, 0, 0, 4}))[:80]
	for i := range 32 {
		inverse = append(inverse, api.SyZero+api.SyOne-s[80+i])
	}
	inverse = append(inverse, api.SyOne, api.SyZero)
	low(t, 1, inverse, inverse, lost(inverse), -1)
}

func TestEachHasAnotherFrame(t *testing.T) { // P9.2, P9.3, P9.4: of one owner
	for owner := range api.MaxPairs {
		list := samples(owner)
		for i, f := range list {
			g := list[(i+1)%len(list)]
			near, far := good(t, f), good(t, g)
			at := 0
			for near[at] == far[at] {
				at++
			}
			low(t, owner, near, far, lost(near), at)
		}
	}
}

func TestAskedAheadWithinAndBehind(t *testing.T) { // P9.2, P9.3
	s := good(t, frame(4))
	c, _ := made(t, 4)
	answers(t, c, 0, frames.Frame{}, false, -1)
	for i, x := range s {
		if out := c.Step(x, x); out != x {
			t.Fatalf("at %d: %d, want %d", i, out, x)
		}
		if i < 113 {
			answers(t, c, i+1, frames.Frame{}, false, -1)
		}
	}
	answers(t, c, 114, frame(4), true, -1)
}

func TestNothingIsHighTooEarly(t *testing.T) { // P9.3
	for owner := range api.MaxPairs {
		s := good(t, frame(owner))
		for n := range api.FrameLong {
			low(t, owner, s[:n], s[:n], s[:n], -1)
		}
	}
}

func TestPairsBehindTheLastOne(t *testing.T) { // P9.2, P9.3: give none, and change nothing
	s := good(t, frame(7))
	for i, x := range []struct {
		near, far syms
		high      bool
		unlike    int
	}{
		{s, s, true, -1},
		{bits.Turn(s, 5), s, false, 5},
		{bits.Turn(s, 112), bits.Turn(s, 112), false, -1},
		{bits.Turn(s, 113), bits.Turn(s, 113), false, -1},
		{s, with(s, 113, api.SyNone), false, 113},
		{all(api.SyNone), all(api.SyNone), false, 0},
	} {
		var f frames.Frame
		if x.high {
			f = frame(7)
		}
		c, _ := run(t, 7, x.near, x.far)
		more := append(odd(), api.SyZero, api.SyOne)
		for _, near := range more {
			for _, far := range more {
				if out := c.Step(near, far); out != api.SyNone {
					t.Errorf("%d: Step(%d, %d) = %d behind the whole", i, near, far, out)
				}
				answers(t, c, api.FrameLong, f, x.high, x.unlike)
			}
		}
		for _, y := range slices.Concat(s, s, s) { // another whole frame is no other turn
			if out := c.Step(y, y); out != api.SyNone {
				t.Errorf("%d: Step(%d, %d) = %d behind the whole", i, y, y, out)
			}
		}
		answers(t, c, api.FrameLong, f, x.high, x.unlike)
	}
}

func TestTheFirstOfManyThatAreUnlike(t *testing.T) { // P9.3
	s := good(t, frame(3))
	for _, at := range edges() {
		near, far := slices.Clone(s), slices.Clone(s)
		for i := at; i < api.FrameLong; i++ {
			switch (i - at) % 4 {
			case 0:
				near[i] = api.SyZero + api.SyOne - near[i]
			case 1:
				far[i] = api.SyNone
			case 2:
				near[i] = 200
			}
		}
		for _, x := range [][2]syms{{near, far}, {far, near}} {
			c, m := made(t, 3)
			for i := range near {
				m.check(t, c)
				step(t, c, m, x[0][i], x[1][i])
				if want := at; i >= at && c.Unlike() != want {
					t.Fatalf("Unlike() = %d behind pair %d, want %d", c.Unlike(), i, want)
				}
			}
		}
	}
}

func TestOfNoCatch(t *testing.T) { // P9.2, P9.3, R3: one that is not there, or that no call made
	var unmade catches.Catch
	none, _ := catches.New(-1)
	for _, c := range []*catches.Catch{nil, none, {}, &unmade, new(catches.Catch)} {
		answers(t, c, 0, frames.Frame{}, false, -1)
		for range 3 {
			for _, x := range append(append(good(t, frame(0)), odd()...), good(t, frame(0))...) {
				for _, y := range []api.Sym{x, api.SyNone, api.SyZero, api.SyOne, 9} {
					if out := c.Step(x, y); out != api.SyNone {
						t.Errorf("Step(%d, %d) = %d", x, y, out)
					}
				}
			}
			answers(t, c, 0, frames.Frame{}, false, -1)
		}
	}
}

// hasGood: the frame whose symbols these are, if it is one of that owner, with a good tail.
func hasGood(s syms, owner int) (frames.Frame, bool) {
	f, tail, e := frames.Read(s)
	if e != api.OK || f.Owner != owner || !tail.Good() {
		return frames.Frame{}, false
	}
	return f, true
}

// spoilt: symbols with some of them turned, or put in place of by anything, at random; often none.
func spoilt(source *rand.Rand, s syms) syms {
	out := slices.Clone(s)
	for source.Intn(3) == 0 {
		at := source.Intn(len(out))
		if source.Intn(2) == 0 {
			at = edges()[source.Intn(len(edges()))]
		}
		if source.Intn(2) == 0 {
			out = bits.Turn(out, at)
		} else {
			out[at] = api.Sym(source.Intn(256) >> source.Intn(8))
		}
	}
	return out
}

func TestHighJustOfOneFrame(t *testing.T) { // P9.4: and out is it then, and else is none with a good tail
	source := rand.New(rand.NewSource(9))
	count := map[bool]int{}
	for range 6000 {
		owner, other := source.Intn(api.MaxPairs), source.Intn(api.MaxPairs)
		first := sent(t, samples(owner)[source.Intn(9)], frames.Tail{Whole: source.Intn(9) > 0, Unlike: source.Intn(9) == 0})
		second := first
		if source.Intn(5) == 0 {
			second = sent(t, samples(other)[source.Intn(9)], frames.Tail{Whole: source.Intn(9) > 0, Unlike: source.Intn(9) == 0})
		}
		if source.Intn(9) == 0 {
			owner = other
		}
		first = spoilt(source, first)
		if source.Intn(2) == 0 {
			second = first
		}
		near, far := first, spoilt(source, second)
		c, out := run(t, owner, near, far)
		f, is := hasGood(near, owner)
		want := is && slices.Equal(near, far)
		got, high := c.High()
		if high != want || high && got != f || high && !slices.Equal(out, near) {
			t.Fatalf("of owner %d, by %v and %v: High() = %+v, %v, out is %v", owner, near, far, got, high, out)
		}
		if _, is := hasGood(out, owner); is != want {
			t.Fatalf("of owner %d, by %v and %v: out is %v", owner, near, far, out)
		}
		count[high]++
	}
	if count[true] < 500 || count[false] < 500 {
		t.Error(count)
	}
}

func TestOutOfAnything(t *testing.T) { // P9.2, P9.3, P9.4: symbols of any kind, all of them at random
	source := rand.New(rand.NewSource(99))
	for n := range 1000 {
		var near, far syms
		for range api.FrameLong + n%7 {
			x := api.Sym(source.Intn(2 + n%5))
			near = append(near, x+api.Sym(n%2))
			if source.Intn(1+n%10) == 0 {
				x = api.Sym(source.Intn(256))
			}
			far = append(far, x+api.Sym(n%2))
		}
		run(t, n%api.MaxPairs, near, far)
	}
}

// chain of catches: each one's inputs are what two of those ahead give, or the sender's two symbols.
type chain struct {
	catches   []*catches.Catch
	near, far []int // of each: whose out; less than 0: the sender's
}

// inRow: so many catches, near what the one ahead gives and far what the one ahead of that does.
func inRow(t *testing.T, owner, n int) *chain {
	x := &chain{}
	for i := range n {
		x.add(t, owner, i-1, i-2)
	}
	return x
}

func (x *chain) add(t *testing.T, owner, near, far int) {
	t.Helper()
	c, _ := made(t, owner)
	x.catches = append(x.catches, c)
	x.near, x.far = append(x.near, near), append(x.far, far)
}

// send symbols through all of them; at each pair one may be given others than it should. What each gave.
func (x *chain) send(s syms, spoil func(who, at int, p pair) pair) []syms {
	outs := make([]syms, len(x.catches))
	from := func(who, at int) api.Sym {
		if who < 0 {
			return s[at]
		}
		return outs[who][at]
	}
	for at := range s {
		for i, c := range x.catches {
			p := spoil(i, at, pair{from(x.near[i], at), from(x.far[i], at)})
			outs[i] = append(outs[i], c.Step(p.near, p.far))
		}
	}
	return outs
}

// high: which of them are.
func (x *chain) high() []bool {
	out := make([]bool, len(x.catches))
	for i, c := range x.catches {
		_, out[i] = c.High()
	}
	return out
}

func TestCatchesHandOnAFrame(t *testing.T) { // P9.4: that all of them have
	for owner := range api.MaxPairs {
		for _, f := range samples(owner) {
			s, x := good(t, f), inRow(t, owner, api.MaxNodes)
			for i, out := range x.send(s, func(_, _ int, p pair) pair { return p }) {
				if !slices.Equal(out, s) {
					t.Errorf("catch %d gave %v, want %v", i, out, s)
				}
				answers(t, x.catches[i], api.FrameLong, f, true, -1)
			}
		}
	}
}

// rowSpoiltAt: a row in which one is given another pair than it should at one place: it is not high, nor is any behind.
func rowSpoiltAt(t *testing.T, who, place int, change func(p pair) pair) {
	t.Helper()
	s, x := good(t, frame(1)), inRow(t, 1, 6)
	x.send(s, func(i, at int, p pair) pair {
		if i == who && at == place {
			return change(p)
		}
		return p
	})
	for i, high := range x.high() {
		if high != (i < who) {
			t.Errorf("spoilt at pair %d of catch %d: catch %d is high: %v", place, who, i, high)
		}
	}
}

func TestNoneIsHighBehindOneThatIsNot(t *testing.T) { // P9.4: whatever spoilt it, wherever
	turn := func(x api.Sym) api.Sym { return api.SyZero + api.SyOne - x }
	for who := range 6 {
		for place := range api.FrameLong {
			rowSpoiltAt(t, who, place, func(p pair) pair { return pair{turn(p.near), p.far} })
			rowSpoiltAt(t, who, place, func(p pair) pair { return pair{p.near, turn(p.far)} })
			rowSpoiltAt(t, who, place, func(p pair) pair { return pair{turn(p.near), turn(p.far)} })
			rowSpoiltAt(t, who, place, func(p pair) pair { return pair{api.SyNone, p.far} })
			rowSpoiltAt(t, who, place, func(p pair) pair { return pair{p.near, 77} })
			rowSpoiltAt(t, who, place, func(p pair) pair { return pair{} })
		}
	}
}

func TestNoneIsHighBehindACatchOfAnotherOwner(t *testing.T) { // P9.4
	for who := range 5 {
		x := &chain{}
		for i := range 5 {
			owner := 1
			if i == who {
				owner = 2
			}
			x.add(t, owner, i-1, i-2)
		}
		x.send(good(t, frame(1)), func(_, _ int, p pair) pair { return p })
		for i, high := range x.high() {
			if high != (i < who) {
				t.Errorf("catch %d is another owner's: catch %d is high: %v", who, i, high)
			}
		}
	}
}

func TestNoneIsHighUnlessBothAheadAre(t *testing.T) { // P9.4: catches behind any two others, some of them spoilt
	source := rand.New(rand.NewSource(999))
	count := map[bool]int{}
	for range 2000 {
		x, owner, n := &chain{}, source.Intn(api.MaxPairs), 2+source.Intn(12)
		for i := range n {
			x.add(t, owner, source.Intn(i+1)-1, source.Intn(i+1)-1)
		}
		bad, from := source.Intn(n), source.Intn(api.FrameLong)
		x.send(good(t, samples(owner)[source.Intn(9)]), func(i, at int, p pair) pair {
			if i != bad || at != from && source.Intn(50) > 0 {
				return p
			}
			return pair{p.near, api.Sym(source.Intn(4)) + 3*api.Sym(source.Intn(2))}
		})
		high := x.high()
		for i := range n {
			ahead := (x.near[i] < 0 || high[x.near[i]]) && (x.far[i] < 0 || high[x.far[i]])
			if high[i] && !ahead || ahead && i != bad && !high[i] {
				t.Fatalf("near %v, far %v, spoilt %d: high are %v", x.near, x.far, bad, high)
			}
			count[high[i]]++
		}
	}
	if count[true] < 500 || count[false] < 500 {
		t.Error(count)
	}
}

func TestCatchesAreTheirOwn(t *testing.T) { // R5: turn by turn, each as it would be alone
	source := rand.New(rand.NewSource(9999))
	for range 40 {
		var list []*catches.Catch
		var alone []*model
		for i := range 12 {
			c, m := made(t, i%api.MaxPairs)
			list, alone = append(list, c), append(alone, m)
		}
		for range 12 * api.FrameLong {
			i := source.Intn(len(list))
			m := alone[i]
			s := good(t, frame(m.owner))
			p := pair{1, 1}
			if n := len(m.had); n < len(s) {
				p = pair{s[n], s[n]}
			}
			if i%3 == 2 && source.Intn(60) == 0 {
				p.far = api.Sym(source.Intn(4))
			}
			step(t, list[i], m, p.near, p.far)
			other := source.Intn(len(list))
			alone[other].check(t, list[other])
		}
	}
}

func TestACopyOfACatchIsItsOwn(t *testing.T) { // R5: both go on from what it had
	first, second := good(t, frame(3)), good(t, samples(3)[9])
	for n := range api.FrameLong + 2 {
		c, m := made(t, 3)
		for i := range min(n, api.FrameLong) {
			step(t, c, m, first[i], first[i])
		}
		other, like := *c, model{owner: m.owner, had: slices.Clone(m.had)}
		for i := n; i < api.FrameLong; i++ {
			step(t, c, m, first[i], first[i])
			like.check(t, &other)
			step(t, &other, &like, second[i], second[i])
			m.check(t, c)
		}
		m.check(t, c)
		like.check(t, &other)
		answers(t, c, api.FrameLong, frame(3), true, -1)
	}
}
