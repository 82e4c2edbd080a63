package tracks_test

import (
	"math"
	"math/rand"
	"reflect"
	"slices"
	"strconv"
	"testing"

	"sennit/api"
	"sennit/tracks"
	"sennit/words"
)

// Hops of links, as places of what they bring.
const (
	near = iota
	far
)

// brought to a node in a tick: rows by direction, by hop, by source.
type brought [2][2][]words.Row

// ins of these rows.
func (b brought) ins() tracks.Ins {
	return tracks.Ins{
		CwNear: words.Word{Rows: b[api.DrCw][near]}, CwFar: words.Word{Rows: b[api.DrCw][far]},
		CcwNear: words.Word{Rows: b[api.DrCcw][near]}, CcwFar: words.Word{Rows: b[api.DrCcw][far]},
	}
}

// broughtBy the four links, in new memory.
func broughtBy(in tracks.Ins) brought {
	return brought{
		api.DrCw:  {cloned(in.CwNear), cloned(in.CwFar)},
		api.DrCcw: {cloned(in.CcwNear), cloned(in.CcwFar)},
	}
}

// cloned rows of a word, in new memory, with more of them, and of their entries, in the rooms behind.
func cloned(w words.Word) []words.Row {
	if w.Rows == nil {
		return nil
	}
	all := []words.Row{}
	for _, r := range w.Rows {
		all = append(all, clonedRow(r))
	}
	for range 20 {
		all = append(all, rowOf(3, 77))
	}
	return all[:len(w.Rows)]
}

// clonedRow: the same, in new memory, with entries in the room behind its table.
func clonedRow(r words.Row) words.Row {
	if r.Table == nil {
		return r
	}
	all := slices.Clone(r.Table)
	for range 20 {
		all = append(all, words.Held{Is: true, Cell: cellOf(99)})
	}
	r.Table = all[:len(r.Table)]
	return r
}

// cellOf a number: plain, with something in all its parts, and unlike those of other numbers.
func cellOf(k int) api.Cell {
	c := api.Cell{Age: int64(k)}
	c.Offer = api.Said{Is: true, At: int64(k % 50), P: api.Payload{Kind: api.PyData, Station: uint8(k), Seq: uint32(k), Value: uint32(7 * k)}}
	c.Report = api.Said{Is: true, At: int64(k % 70), P: api.Payload{Kind: api.PyCommand, Station: uint8(k % 8), Seq: uint32(3 * k), Value: uint32(k)}}
	for i := range api.MaxPairs {
		c.View.In[i], c.View.Got[i] = (i+k)%2 == 0, (i+k)%3 == 0
		c.View.Miss[i], c.View.Good[i], c.View.Score[i] = uint8(i+k), uint8(2*i+k), uint16(5*i+k)
	}
	c.View.Command, c.View.Mode = int8(k%8), uint8(k%7)
	return c
}

// rowOf a number: set, plain, of so many nodes, some of its entries set, and unlike those of other numbers.
func rowOf(n, k int) words.Row {
	r := words.Row{Is: true, Cell: cellOf(k), Table: make([]words.Held, n)}
	for i := range n {
		if (i+k)%3 > 0 {
			r.Table[i] = words.Held{Is: true, Cell: cellOf(k + 10*i)}
		}
	}
	return r
}

// rowsOf numbers from one on: one of each node.
func rowsOf(n, k int) []words.Row {
	out := []words.Row{}
	for i := range n {
		out = append(out, rowOf(n, k+i))
	}
	return out
}

// noRows: as many that are not set.
func noRows(n int) []words.Row { return make([]words.Row, n) }

// ways in which a plain row is made unlike.
const ways = 8

// unlike a plain row in one part alone, and plain, too; each way unlike the others.
func unlike(r words.Row, how int) words.Row {
	r = words.Copy(r)
	last := len(r.Table) - 1
	turn := func(h *words.Held) {
		if h.Is {
			*h = words.Held{}
		} else {
			*h = words.Held{Is: true, Cell: cellOf(1)}
		}
	}
	switch how % ways {
	case 0:
		r.Cell.Age++
	case 1:
		r.Cell.Offer.At++
	case 2:
		r.Cell.Report.P.Value ^= 1
	case 3:
		r.Cell.View.Mode ^= 1
	case 4:
		turn(&r.Table[0])
	case 5:
		turn(&r.Table[last])
	case 6:
		r.Cell.View.Got[api.MaxPairs-1] = !r.Cell.View.Got[api.MaxPairs-1]
	case 7:
		r.Cell.Offer = api.Said{}
	}
	return r
}

// disguised: a plain row, handed in otherwise; its plain form is still the row.
func disguised(r words.Row, how int) words.Row {
	r = words.Copy(r)
	switch how % 4 {
	case 1: // entries beyond the nodes
		r.Table = append(r.Table, words.Held{Is: true, Cell: cellOf(5)}, words.Held{Cell: cellOf(6)})
	case 2: // something in entries that are not set
		for i := range r.Table {
			if !r.Table[i].Is {
				r.Table[i].Cell = cellOf(how + i)
			}
		}
	case 3: // the last entries missing, where they are not set
		for len(r.Table) > 0 && !r.Table[len(r.Table)-1].Is {
			r.Table = r.Table[:len(r.Table)-1]
		}
	}
	return r
}

// notSet: a row, in one of the forms in which it is handed in.
func notSet(n, how int) words.Row {
	r := words.Row{}
	if how%3 > 0 {
		r = rowOf(n, how%3)
		r.Is = false
	}
	return r
}

// anyCell, each part by chance one that may be, or one that may not.
func anyCell(r *rand.Rand) api.Cell {
	times := []int64{math.MinInt64, -1, 0, 5, api.MaxAge, api.MaxAge + 1, math.MaxInt64}
	said := func() api.Said {
		return api.Said{Is: r.Intn(3) > 0, At: times[r.Intn(len(times))], P: api.Payload{Kind: api.Kind(r.Intn(4)), Station: uint8(r.Intn(2)), Seq: uint32(r.Intn(2))}}
	}
	c := api.Cell{Age: times[r.Intn(len(times))], Offer: said(), Report: said()}
	c.View.In[r.Intn(api.MaxPairs)], c.View.Command, c.View.Mode = true, int8(r.Intn(12)-2), uint8(r.Intn(11))
	return c
}

// anyRow, set or not, plain or not, of any number of entries.
func anyRow(r *rand.Rand) words.Row {
	out := words.Row{Is: r.Intn(4) > 0, Cell: anyCell(r)}
	for range r.Intn(20) {
		out.Table = append(out.Table, words.Held{Is: r.Intn(3) > 0, Cell: anyCell(r)})
	}
	return out
}

// anyIns: words of any number of rows, of a few, so that there are often the same ones among them.
func anyIns(r *rand.Rand, few []words.Row) tracks.Ins {
	word := func() words.Word {
		out := words.Word{}
		for range r.Intn(24) - 2 {
			out.Rows = append(out.Rows, few[r.Intn(len(few))])
		}
		return out
	}
	return tracks.Ins{CwNear: word(), CwFar: word(), CcwNear: word(), CcwFar: word()}
}

// distance from a source to a node, in a direction, counted step by step.
func distance(n int, d api.Dir, source, me int) int {
	steps := 0
	for source != me {
		if d == api.DrCw {
			source = (source + 1) % n
		} else {
			source = (source + n - 1) % n
		}
		steps++
	}
	return steps
}

// alike: are rows, in all that they have?
func alike(a, b words.Row) bool {
	return a.Is == b.Is && a.Cell == b.Cell && slices.Equal(a.Table, b.Table)
}

// wantRows fails if there are others, or if there is room behind them, or behind a table.
func wantRows(t *testing.T, what string, got, want []words.Row) {
	t.Helper()
	if len(got) != len(want) || cap(got) != len(got) {
		t.Fatalf("%s: %d rows, with room for %d, want %d", what, len(got), cap(got), len(want))
	}
	for i, r := range got {
		if !alike(r, want[i]) {
			t.Fatalf("%s: row %d is %+v\nwant %+v", what, i, r, want[i])
		}
		if cap(r.Table) != len(r.Table) {
			t.Fatalf("%s: row %d has a table of %d, with room for %d", what, i, len(r.Table), cap(r.Table))
		}
	}
}

// made: a lane of a node among so many.
func made(t *testing.T, n, me int) *tracks.Lane {
	t.Helper()
	l, e := tracks.New(n, me)
	if l == nil || e != api.OK {
		t.Fatalf("New(%d, %d) = %v, %d", n, me, l, e)
	}
	return l
}

// record of all that a lane was ever told; of it the document's words are worked out.
type record struct {
	n, me int
	ins   []brought   // of each tick that has begun, in plain form
	own   []words.Row // of each tick that has ended, in plain form
}

// track of a source at a tick, in a direction.
func (r *record) track(tick int, d api.Dir, source int) words.Row {
	switch distance(r.n, d, source, r.me) {
	case 0:
		return r.own[tick]
	case 1:
		return r.ins[tick][d][near][source]
	}
	return r.ins[tick][d][far][source]
}

// certified of a source, of a tick.
func (r *record) certified(tick, source int) words.Row {
	if source == r.me {
		return r.own[tick]
	}
	copies := []words.Row{}
	for _, d := range []api.Dir{api.DrCw, api.DrCcw} {
		steps := distance(r.n, d, source, r.me)
		copies = append(copies, r.track(tick+steps, d, source))
		if steps >= 2 {
			copies = append(copies, r.ins[tick+steps][d][near][source])
		}
	}
	return theOne(copies)
}

// theOne row that two at least of these are, and that is set; none, if there is no such row, or two.
func theOne(copies []words.Row) words.Row {
	found := []words.Row{}
	for i, a := range copies {
		many, first := 0, true
		for k, b := range copies {
			if alike(a, b) {
				many++
				first = first && k >= i
			}
		}
		if a.Is && many >= 2 && first {
			found = append(found, a)
		}
	}
	if len(found) != 1 {
		return words.Row{}
	}
	return found[0]
}

// hear a tick: what the lane holds of each node then.
func (r *record) hear(in tracks.Ins) []words.Row {
	if len(r.own) < len(r.ins) {
		r.own = append(r.own, words.Row{})
	}
	plain := func(w words.Word) []words.Row { return words.Norm(r.n, w).Rows }
	r.ins = append(r.ins, brought{{plain(in.CwNear), plain(in.CwFar)}, {plain(in.CcwNear), plain(in.CcwFar)}})
	out := noRows(r.n)
	if of := len(r.ins) - 1 - r.n; of >= 0 {
		for source := range out {
			out[source] = r.certified(of, source)
		}
	}
	return out
}

// say: what goes out.
func (r *record) say(own words.Row) (cw, ccw []words.Row) {
	if len(r.own) == len(r.ins) {
		return nil, nil
	}
	r.own = append(r.own, words.Plain(r.n, own))
	now := len(r.own) - 1
	for source := range r.n {
		cw = append(cw, words.Copy(r.track(now, api.DrCw, source)))
		ccw = append(ccw, words.Copy(r.track(now, api.DrCcw, source)))
	}
	return cw, ccw
}

// both: a lane and its record, which are told the same.
type both struct {
	*testing.T
	lane *tracks.Lane
	record
}

func twins(t *testing.T, n, me int) *both {
	t.Helper()
	return &both{T: t, lane: made(t, n, me), record: record{n: n, me: me}}
}

// what is looked at, for a test that fails.
func (b *both) what(call string) string {
	return call + ", node " + strconv.Itoa(b.me) + " of " + strconv.Itoa(b.n) + ", tick " + strconv.Itoa(len(b.ins))
}

func (b *both) hear(in tracks.Ins) {
	b.Helper()
	want := b.record.hear(in)
	wantRows(b.T, b.what("Hear"), b.lane.Hear(in), want)
}

func (b *both) say(own words.Row) {
	b.Helper()
	wantCw, wantCcw := b.record.say(own)
	cw, ccw := b.lane.Say(own)
	wantRows(b.T, b.what("Say, CW"), cw.Rows, wantCw)
	wantRows(b.T, b.what("Say, CCW"), ccw.Rows, wantCcw)
}

func (b *both) tick(in tracks.Ins, own words.Row) {
	b.Helper()
	b.hear(in)
	b.say(own)
}

// eachLane of each ring.
func eachLane(t *testing.T, each func(n, me int)) {
	t.Helper()
	for n := api.MinNodes; n <= api.MaxNodes; n++ {
		for me := range n {
			each(n, me)
		}
	}
}

// oneRow: rows of which one alone is set.
func oneRow(n, at int, r words.Row) []words.Row {
	out := noRows(n)
	out[at] = r
	return out
}

func TestAsTheDocumentHasIt(t *testing.T) { // P14.2: its example, and what comes with one of both alone
	r := rowOf(4, 9)
	for _, c := range []struct{ cw, ccw bool }{{true, true}, {true, false}, {false, true}, {false, false}} {
		l := made(t, 4, 1)
		for tick := 1; tick <= 6; tick++ {
			in, cwWant, held := brought{}, noRows(4), noRows(4)
			ccwWant := noRows(4)
			if tick == 2 && c.cw {
				in[api.DrCw][near], cwWant = oneRow(4, 0, r), oneRow(4, 0, r)
			}
			if tick == 4 && c.ccw {
				in[api.DrCcw][far], ccwWant = oneRow(4, 0, r), oneRow(4, 0, r)
			}
			if tick == 5 && c.cw && c.ccw {
				held = oneRow(4, 0, r)
			}
			what := "tick " + strconv.Itoa(tick)
			wantRows(t, what, l.Hear(in.ins()), held)
			cw, ccw := l.Say(words.Row{})
			wantRows(t, what+", CW", cw.Rows, cwWant)
			wantRows(t, what+", CCW", ccw.Rows, ccwWant)
		}
	}
}

// edges that numbers of nodes, and nodes, are asked at: also ones that would wrap round to some that may be.
func edges() []int {
	return []int{math.MinInt, math.MinInt + 1, math.MinInt + 4, math.MinInt32, -1 << 32, -1<<32 + 4, -256, -17, -16, -5, -4, -3, -2, -1,
		17, 18, 20, 32, 255, 256, 260, 1 << 16, 1 << 32, 1<<32 + 1, 1<<32 + 4, 1 << 62, math.MaxInt32, math.MaxInt - 1, math.MaxInt}
}

// nowhere fails if there is a lane of a node among so many.
func nowhere(t *testing.T, n, me int) {
	t.Helper()
	if l, e := tracks.New(n, me); l != nil || e != api.ErrArg {
		t.Errorf("New(%d, %d) = %v, %d, want ErrArg", n, me, l, e)
	}
}

func TestRingsThatAreNone(t *testing.T) { // P14.1: whatever the node
	for _, n := range append(edges(), 0, 1, 2, 3) {
		for _, me := range append(edges(), 0, 1, 2, 3, 4, 15, 16, n-1, n, n+1, n/2) {
			nowhere(t, n, me)
		}
	}
}

func TestNodesThatAreNone(t *testing.T) { // P14.1: of each ring
	for n := api.MinNodes; n <= api.MaxNodes; n++ {
		for _, me := range append(edges(), n, n+1, 2*n-1, 2*n, -n, -n+1, 256+n-1) {
			nowhere(t, n, me)
		}
	}
}

func TestNoTickHasCome(t *testing.T) { // P14.1, P14.2: to a new lane, of each node of each ring: nothing is held, and nothing said
	eachLane(t, func(n, me int) {
		l := made(t, n, me)
		cw, ccw := l.Say(rowOf(n, 1))
		if len(cw.Rows)+len(ccw.Rows) != 0 {
			t.Fatalf("node %d of %d says %v, %v ahead of the first tick", me, n, cw, ccw)
		}
		for tick := range 2*n + 2 {
			wantRows(t, "tick "+strconv.Itoa(tick), l.Hear(tracks.Ins{}), noRows(n))
			cw, ccw := l.Say(words.Row{})
			wantRows(t, "CW", cw.Rows, noRows(n))
			wantRows(t, "CCW", ccw.Rows, noRows(n))
		}
	})
}

func TestWhatGoesOut(t *testing.T) { // P14.2: by hand; links bring rows of 100 on, 200 on, 300 on and 400 on, the node says 7
	for _, c := range []struct {
		n, me   int
		cw, ccw []int
	}{
		{4, 0, []int{7, 201, 202, 103}, []int{7, 301, 402, 403}},
		{4, 1, []int{100, 7, 202, 203}, []int{400, 7, 302, 403}},
		{4, 3, []int{200, 201, 102, 7}, []int{300, 401, 402, 7}},
		{6, 0, []int{7, 201, 202, 203, 204, 105}, []int{7, 301, 402, 403, 404, 405}},
		{6, 4, []int{200, 201, 202, 103, 7, 205}, []int{400, 401, 402, 403, 7, 305}},
		{6, 5, []int{200, 201, 202, 203, 104, 7}, []int{300, 401, 402, 403, 404, 7}},
	} {
		l := made(t, c.n, c.me)
		in := brought{{rowsOf(c.n, 100), rowsOf(c.n, 200)}, {rowsOf(c.n, 300), rowsOf(c.n, 400)}}
		for range 3 {
			l.Hear(in.ins())
			cw, ccw := l.Say(rowOf(c.n, 7))
			for source := range c.n {
				wantRows(t, "CW", cw.Rows[source:source+1:source+1], []words.Row{rowOf(c.n, c.cw[source])})
				wantRows(t, "CCW", ccw.Rows[source:source+1:source+1], []words.Row{rowOf(c.n, c.ccw[source])})
			}
		}
	}
}

func TestEachLinkAlone(t *testing.T) { // P14.2: of each node of each ring: one of the four brings rows, the others none, or all others do
	eachLane(t, func(n, me int) {
		for _, alone := range []bool{true, false} {
			b := twins(t, n, me)
			for link := range 4 {
				in := brought{}
				for other := range 4 {
					if (other == link) == alone {
						in[other/2][other%2] = rowsOf(n, 100*other)
					}
				}
				b.tick(in.ins(), rowOf(n, 8+link))
			}
		}
	})
}

// patterns of so many copies: each way in which they are alike, or not set (0), or unlike, once.
func patterns(many int) [][]int {
	out := [][]int{{}}
	for range many {
		longer := [][]int{}
		for _, p := range out {
			for x := range slices.Max(append([]int{0}, p...)) + 2 {
				longer = append(longer, append(slices.Clone(p), x))
			}
		}
		out = longer
	}
	return out
}

// patternsOf three copies, and of four: made once, as each lane goes through them; nothing changes them.
var patternsOf = [...][][]int{3: patterns(3), 4: patterns(4)}

// stream of ticks, in which of each source, and of each tick, there are copies of another pattern.
type stream struct {
	n, me, ticks int
	brought      []brought
	want         [][]words.Row // certified, by ticks, by sources
}

// streamOf patterns, all of which each source has once at least; it begins ahead of the first tick, whose copies come all the same.
func streamOf(n, me, ticks int) stream {
	s := stream{n: n, me: me, ticks: ticks}
	for range ticks {
		s.brought = append(s.brought, brought{{noRows(n), noRows(n)}, {noRows(n), noRows(n)}})
		s.want = append(s.want, noRows(n))
	}
	s.fillUnasked()
	for of := -n; of < ticks; of++ {
		for source := range n {
			if source != me {
				s.lay(of, source)
			}
		}
	}
	return s
}

// fillUnasked: rows that nobody asks for, but that would be certified, were they taken.
func (s *stream) fillUnasked() {
	for tick, b := range s.brought {
		for d := range b {
			for source := range s.n {
				switch steps := distance(s.n, api.Dir(d), source, s.me); steps {
				case 0:
					b[d][near][source], b[d][far][source] = rowOf(s.n, 3), rowOf(s.n, 3)
				case 1:
					b[d][far][source] = s.row(tick-1, source, 1)
				}
			}
		}
	}
}

// row of a number that a source says at a tick; each number's is unlike, in one part.
func (s *stream) row(of, source, x int) words.Row {
	r := rowOf(s.n, 200+13*of+17*source)
	if x == 1 {
		return r
	}
	return unlike(r, of+source+x)
}

// lay the copies of a source, of a tick.
func (s *stream) lay(of, source int) {
	all := patternsOf[3+min(1, s.apart(source)-1)]
	pattern := all[(of+s.n+7*source)%len(all)]
	i := 0
	for _, d := range []api.Dir{api.DrCw, api.DrCcw} {
		steps := distance(s.n, d, source, s.me)
		hops := []int{far, near}
		if steps == 1 {
			hops = []int{near}
		}
		for _, hop := range hops {
			if at := of + steps; at >= 0 && at < s.ticks {
				s.brought[at][d][hop][source] = s.copyOf(of, source, i, pattern[i])
			}
			i++
		}
	}
	if of >= 0 {
		s.want[of][source] = s.wanted(of, source, pattern)
	}
}

// apart: the lesser distance of a source.
func (s *stream) apart(source int) int {
	return min(distance(s.n, api.DrCw, source, s.me), distance(s.n, api.DrCcw, source, s.me))
}

// copyOf a row of that number, as it is handed in.
func (s *stream) copyOf(of, source, i, x int) words.Row {
	if x == 0 {
		return notSet(s.n, of+source)
	}
	return disguised(s.row(of, source, x), of+source+i)
}

// wanted: the one row that two of a pattern are.
func (s *stream) wanted(of, source int, pattern []int) words.Row {
	many := [6]int{}
	for _, x := range pattern {
		many[x]++
	}
	out, found := words.Row{}, 0
	for x := 1; x < len(many); x++ {
		if many[x] >= 2 {
			out, found = s.row(of, source, x), found+1
		}
	}
	if found > 1 {
		return words.Row{}
	}
	return out
}

// run a lane of it: each tick holds what is certified of as many ticks ago as there are nodes, and nothing of what was ahead of the first tick.
func (s *stream) run(t *testing.T) {
	t.Helper()
	l := made(t, s.n, s.me)
	for tick, b := range s.brought {
		want := noRows(s.n)
		if tick >= s.n {
			want = slices.Clone(s.want[tick-s.n])
			want[s.me] = rowOf(s.n, 5000+tick-s.n)
		}
		what := "node " + strconv.Itoa(s.me) + " of " + strconv.Itoa(s.n) + ", tick " + strconv.Itoa(tick)
		wantRows(t, what, l.Hear(b.ins()), want)
		l.Say(rowOf(s.n, 5000+tick))
	}
}

func TestHowOftenARowIsAmongTheCopies(t *testing.T) { // P14.2: of each source of each node of each ring: none, one, two, three, four the same, two pairs, not set, as words bring them
	if three, four := len(patternsOf[3]), len(patternsOf[4]); three != 15 || four != 52 {
		t.Fatalf("%d and %d patterns", three, four)
	}
	eachLane(t, func(n, me int) {
		s := streamOf(n, me, 2*n+52)
		s.run(t)
	})
}

func TestOfOneSourceByHand(t *testing.T) { // P14.2: node 5 of 7 holds of node 2, at distances 3 and 4; letters are rows, and . is not set
	rows := map[byte]words.Row{'a': rowOf(7, 1), 'b': rowOf(7, 2), 'c': unlike(rowOf(7, 1), 5), 'd': rowOf(7, 4)}
	for _, c := range []struct{ copies, want string }{
		{"....", "."}, {"a...", "."}, {".a..", "."}, {"..a.", "."}, {"...a", "."},
		{"aa..", "a"}, {"a.a.", "a"}, {"a..a", "a"}, {".aa.", "a"}, {".a.a", "a"}, {"..aa", "a"},
		{"aaa.", "a"}, {"aa.a", "a"}, {"a.aa", "a"}, {".aaa", "a"}, {"aaaa", "a"},
		{"abcd", "."}, {"ab..", "."}, {"a.c.", "."}, {"abc.", "."}, {"..ac", "."},
		{"aabb", "."}, {"abab", "."}, {"abba", "."}, {"ccaa", "."}, {"caca", "."},
		{"aabc", "a"}, {"abac", "a"}, {"abca", "a"}, {"baac", "a"}, {"baca", "a"}, {"bcaa", "a"},
		{"aaab", "a"}, {"aaba", "a"}, {"abaa", "a"}, {"baaa", "a"}, {"accc", "c"}, {"cca.", "c"}, {"b.bd", "b"},
	} {
		l := made(t, 7, 5)
		for tick := range 10 {
			in, want := brought{}, noRows(7)
			if tick == 4 { // what was said at tick 1, three steps on
				in[api.DrCw] = [2][]words.Row{oneRow(7, 2, rows[c.copies[1]]), oneRow(7, 2, rows[c.copies[0]])}
			}
			if tick == 5 {
				in[api.DrCcw] = [2][]words.Row{oneRow(7, 2, rows[c.copies[3]]), oneRow(7, 2, rows[c.copies[2]])}
			}
			if tick == 8 {
				want = oneRow(7, 2, rows[c.want[0]])
			}
			wantRows(t, c.copies+", tick "+strconv.Itoa(tick), l.Hear(in.ins()), want)
			l.Say(words.Row{})
		}
	}
}

func TestCopiesAtOtherTicks(t *testing.T) { // P14.2: two of which one came a tick too early, or too late, are of no one tick, and so nothing
	eachLane(t, func(n, me int) {
		for _, off := range []int{-1, 0, 1} {
			source := (me + 1 + (n+off)%3) % n
			cw, ccw := distance(n, api.DrCw, source, me), distance(n, api.DrCcw, source, me)
			l := made(t, n, me)
			hop := func(steps int) int { return min(steps, 2) - 1 }
			r := rowOf(n, 50)
			for tick := range 3*n + 3 {
				in, want := brought{}, noRows(n)
				if tick == 2+cw {
					in[api.DrCw][hop(cw)] = oneRow(n, source, r)
				}
				if tick == 2+ccw+off {
					in[api.DrCcw][hop(ccw)] = oneRow(n, source, r)
				}
				if tick == 2+n && off == 0 {
					want = oneRow(n, source, r)
				}
				wantRows(t, "tick "+strconv.Itoa(tick)+", off by "+strconv.Itoa(off), l.Hear(in.ins()), want)
				l.Say(words.Row{})
			}
		}
	})
}

// parts of a thing, down to its numbers and its bools.
func parts(v reflect.Value, each func(part reflect.Value)) {
	switch v.Kind() {
	case reflect.Struct:
		for i := range v.NumField() {
			parts(v.Field(i), each)
		}
	case reflect.Array, reflect.Slice:
		for i := range v.Len() {
			parts(v.Index(i), each)
		}
	default:
		each(v)
	}
}

// turn one bit of a part, or a bool; once more, and it is as it was.
func turn(part reflect.Value, bit int) {
	switch {
	case part.Kind() == reflect.Bool:
		part.SetBool(!part.Bool())
	case part.CanInt():
		part.SetInt(part.Int() ^ int64(1)<<bit)
	default:
		part.SetUint(part.Uint() ^ uint64(1)<<bit)
	}
}

// turned: a row with each of a few bits of each of its parts turned.
func turned(r words.Row) []words.Row {
	r = words.Copy(r)
	out := []words.Row{}
	parts(reflect.ValueOf(&r).Elem(), func(part reflect.Value) {
		bits := []int{0}
		if part.Kind() != reflect.Bool {
			bits = []int{0, 2, part.Type().Bits() - 2}
		}
		for _, bit := range bits {
			turn(part, bit)
			out = append(out, words.Copy(r))
			turn(part, bit)
		}
	})
	return out
}

func TestCopiesUnlikeInOneBit(t *testing.T) { // P14.2: are not the same row, if their plain forms are unlike
	r := rowOf(4, 30)
	same, others := 0, 0
	l := made(t, 4, 1)
	all := turned(r)
	for tick := range len(all) + 4 {
		in, want := brought{}, noRows(4)
		if tick >= 1 && tick-1 < len(all) {
			in[api.DrCw][near] = oneRow(4, 0, r)
		}
		if tick >= 3 && tick-3 < len(all) {
			in[api.DrCcw][far] = oneRow(4, 0, all[tick-3])
		}
		if of := tick - 4; of >= 0 && alike(words.Plain(4, all[of]), r) {
			want = oneRow(4, 0, r)
			same++
		} else if of >= 0 {
			others++
		}
		wantRows(t, "tick "+strconv.Itoa(tick), l.Hear(in.ins()), want)
		l.Say(words.Row{})
	}
	// The two entries that are not set have the same plain form, whatever is in their cells; all else is another one.
	if same != 2*129 || others != len(all)-same {
		t.Errorf("%d the same, %d unlike", same, others)
	}
}

func TestWordsOfEachLength(t *testing.T) { // P14.2: without rows, with fewer than there are nodes, with more; and none beside the others
	for n := api.MinNodes; n <= api.MaxNodes; n++ {
		for _, me := range []int{0, 1, n / 2, n - 1} {
			b := twins(t, n, me)
			lengths := []int{-1, 0, 1, 2, n - 1, n, n + 1, 2 * n, 40}
			for tick := range 3 * len(lengths) {
				in := brought{}
				for link := range 4 {
					if many := lengths[(tick+link*(1+tick/len(lengths)))%len(lengths)]; many >= 0 {
						in[link/2][link%2] = rowsOf(n, 60)[:min(many, n)]
						for k := n; k < many; k++ {
							in[link/2][link%2] = append(in[link/2][link%2], rowOf(n, 60+k))
						}
					}
				}
				b.tick(in.ins(), rowOf(n, tick))
			}
		}
	}
}

// forms of what a node says, plain and not.
func forms(n int) []words.Row {
	wrong := rowOf(n, 40)
	wrong.Cell.Age, wrong.Cell.Offer.At, wrong.Cell.Report.P.Kind, wrong.Cell.View.Command, wrong.Cell.View.Mode = -5, -1, 9, 99, 100
	wrong.Table[0] = words.Held{Is: true, Cell: wrong.Cell}
	wrong.Table[n-1] = words.Held{Cell: wrong.Cell}
	out := []words.Row{{}, {Is: true}, {Cell: cellOf(3)}, {Table: make([]words.Held, n)}, wrong, {Is: true, Cell: wrong.Cell, Table: []words.Held{}}, notSet(n, 1), notSet(n, 2)}
	for how := range 4 {
		out = append(out, disguised(rowOf(n, 41), how), disguised(rowOf(n, 42), how))
	}
	for many := range 2*n + 2 {
		out = append(out, words.Row{Is: true, Cell: cellOf(many), Table: slices.Repeat(rowOf(n, 43).Table[:2], n+1)[:many]})
	}
	return out
}

func TestWhatTheNodeSays(t *testing.T) { // P14.2: in plain form it goes out both ways, and is held, N ticks later, whatever others say of it
	eachLane(t, func(n, me int) {
		l := made(t, n, me)
		all := forms(n)
		word := oneRow(n, me, rowOf(n, 90))
		in := brought{{word, word}, {word, word}}
		for tick := range len(all) + n {
			held := noRows(n)
			if tick >= n {
				held = oneRow(n, me, words.Plain(n, all[tick-n]))
			}
			what := "node " + strconv.Itoa(me) + " of " + strconv.Itoa(n) + ", tick " + strconv.Itoa(tick)
			wantRows(t, what, l.Hear(in.ins()), held)
			own := all[tick%len(all)]
			cw, ccw := l.Say(own)
			wantRows(t, what+", CW", cw.Rows, oneRow(n, me, words.Plain(n, own)))
			wantRows(t, what+", CCW", ccw.Rows, oneRow(n, me, words.Plain(n, own)))
		}
	})
}

func TestFormsOfWhatComes(t *testing.T) { // P14.2: it goes out, and is held, in plain form
	for n := api.MinNodes; n <= api.MaxNodes; n++ {
		b := twins(t, n, n/3)
		all := forms(n)
		for tick := range len(all) + n {
			word := noRows(n)
			for source := range word {
				word[source] = all[(tick+5*source)%len(all)]
			}
			b.tick(brought{{word, word}, {word, word}}.ins(), words.Row{})
		}
		// All copies of a source are the same where it says the same in each tick.
		for _, r := range all {
			word := slices.Repeat([]words.Row{r}, n)
			for range n + 1 {
				b.tick(brought{{word, word}, {word, word}}.ins(), r)
			}
			wantRows(t, "held", b.lane.Hear(tracks.Ins{}), slices.Repeat([]words.Row{words.Plain(n, r)}, n))
			b = twins(t, n, n/3)
		}
	}
}

func TestOfTicksAheadOfTheFirstOne(t *testing.T) { // P14.2: nothing is held, whatever comes; the N-th tick behind the first one holds of that
	eachLane(t, func(n, me int) {
		l := made(t, n, me)
		word := rowsOf(n, 20)
		in := brought{{word, word}, {word, word}}
		for tick := range n + 2 {
			want := noRows(n)
			if tick >= n {
				want = slices.Clone(word)
				want[me] = rowOf(n, 70+tick-n)
			}
			wantRows(t, "node "+strconv.Itoa(me)+" of "+strconv.Itoa(n)+", tick "+strconv.Itoa(tick), l.Hear(in.ins()), want)
			l.Say(rowOf(n, 70+tick))
		}
	})
}

func TestHearTwice(t *testing.T) { // P14.2: if nothing was said in a tick, Row{} was; what it brought counts all the same
	eachLane(t, func(n, me int) {
		for i, silent := range []func(tick int) bool{
			func(int) bool { return true },
			func(tick int) bool { return tick == 0 },
			func(tick int) bool { return tick == n-1 || tick == n },
			func(tick int) bool { return tick%2 == 0 },
			func(tick int) bool { return tick%3 > 0 },
		} {
			if n > 6 && i != (n+me)%5 {
				continue
			}
			b := twins(t, n, me)
			word := rowsOf(n, 20)
			for tick := range 2*n + 3 {
				b.hear(brought{{word, word}, {word, word}}.ins())
				if !silent(tick) {
					b.say(rowOf(n, 70+tick))
				}
			}
		}
	})
}

func TestSayWhereNoTickHasBegun(t *testing.T) { // P14.2: words without rows, and nothing is done, ahead of the first tick, and behind what was said
	eachLane(t, func(n, me int) {
		b := twins(t, n, me)
		word := rowsOf(n, 20)
		for tick := range 2*n + 3 {
			for k := range tick % 3 {
				b.say(rowOf(n, 300+k)) // nothing, as its record has it
			}
			b.tick(brought{{word, word}, {word, word}}.ins(), rowOf(n, 70+tick))
		}
		cw, ccw := b.lane.Say(rowOf(n, 1))
		if len(cw.Rows)+len(ccw.Rows) != 0 {
			t.Fatalf("said twice: %v, %v", cw, ccw)
		}
	})
}

func TestCallsInAnyOrder(t *testing.T) { // P14.2: of each ring, for many rounds, with whatever words, which often have the same rows
	for n := api.MinNodes; n <= api.MaxNodes; n++ {
		source := rand.New(rand.NewSource(int64(n)))
		b := twins(t, n, source.Intn(n))
		few := []words.Row{{}, rowOf(n, 1), unlike(rowOf(n, 1), 5), anyRow(source), anyRow(source), anyRow(source)}
		for range 20 * n {
			if source.Intn(5) > 0 {
				b.hear(anyIns(source, few))
			}
			if source.Intn(5) > 0 {
				b.say(anyRow(source))
			}
		}
	}
}

func TestLanesTurnByTurn(t *testing.T) { // R5: each as it would be alone
	source := rand.New(rand.NewSource(5))
	all := []*both{}
	few := []words.Row{rowOf(5, 1), rowOf(5, 2), anyRow(source), {}}
	for _, c := range [][2]int{{4, 0}, {4, 1}, {4, 0}, {5, 0}, {9, 4}, {16, 15}, {16, 0}} {
		all = append(all, twins(t, c[0], c[1]))
	}
	for range 600 {
		b := all[source.Intn(len(all))]
		if source.Intn(2) > 0 {
			b.hear(anyIns(source, few))
		} else {
			b.say(few[source.Intn(len(few))])
		}
	}
}

func TestOfNoLane(t *testing.T) { // R3, P14.2: nothing, of one that is not there, and of one that no call made, again and again
	none, _ := tracks.New(3, 0)
	for i, l := range []*tracks.Lane{nil, none, {}, new(tracks.Lane)} {
		for tick := range 20 {
			if held := l.Hear(brought{{rowsOf(4, 1), rowsOf(4, 2)}, {nil, rowsOf(4, 4)}}.ins()); len(held) != 0 {
				t.Fatalf("lane %d, tick %d: holds %v", i, tick, held)
			}
			if held := l.Hear(tracks.Ins{}); len(held) != 0 {
				t.Fatalf("lane %d, tick %d: holds %v", i, tick, held)
			}
			if cw, ccw := l.Say(rowOf(4, 5)); len(cw.Rows)+len(ccw.Rows) != 0 {
				t.Fatalf("lane %d, tick %d: says %v, %v", i, tick, cw, ccw)
			}
		}
	}
}

func TestListsFarTooLong(t *testing.T) { // R1: what is beyond the nodes is let go, however much it is
	long := words.Row{Is: true, Cell: cellOf(2), Table: slices.Repeat([]words.Held{{Is: true, Cell: cellOf(3)}}, 5000)}
	word := slices.Repeat([]words.Row{long}, 3000)
	for _, n := range []int{4, api.MaxNodes} {
		b := twins(t, n, 2)
		for range n + 2 {
			b.tick(brought{{word, word}, {word, word}}.ins(), long)
		}
	}
}

// whole: a list with what is in the room behind it.
func whole[T any](list []T) []T { return list[:cap(list)] }

// spoil rows, their tables, and the rooms behind.
func spoil(rows []words.Row) {
	for i, r := range whole(rows) {
		for k := range whole(r.Table) {
			whole(r.Table)[k] = words.Held{Is: true, Cell: api.Cell{Age: 12345}}
		}
		whole(rows)[i] = words.Row{Is: true, Cell: api.Cell{Age: 54321}, Table: make([]words.Held, 30)}
	}
}

// spoilAll that links bring.
func (b brought) spoilAll() {
	for link := range 4 {
		spoil(b[link/2][link%2])
	}
}

// untouched fails if rows, or what is in the rooms behind them, are not as they were.
func untouched(t *testing.T, is, was []words.Row) {
	t.Helper()
	for i, r := range whole(is) {
		if !alike(r, whole(was)[i]) || !slices.Equal(whole(r.Table), whole(whole(was)[i].Table)) {
			t.Fatalf("row %d of what was handed in was changed: %+v, from %+v", i, r, whole(was)[i])
		}
	}
}

func TestWhatIsHandedInStays(t *testing.T) { // R1: and so does what is in the room behind it; in ticks behind, too
	source := rand.New(rand.NewSource(6))
	for _, n := range []int{4, 5, api.MaxNodes} {
		l := made(t, n, n-1)
		few := append(forms(n), anyRow(source), anyRow(source))
		given, told := []brought{}, []brought{}
		owns, toldOwns := []words.Row{}, []words.Row{}
		for range 3 * n {
			in, own := anyIns(source, few), few[source.Intn(len(few))]
			given, told = append(given, broughtBy(in)), append(told, broughtBy(in))
			owns, toldOwns = append(owns, clonedRow(own)), append(toldOwns, clonedRow(own))
			held := l.Hear(given[len(given)-1].ins())
			cw, ccw := l.Say(owns[len(owns)-1])
			// What was answered hangs on nothing of it, either.
			spoil(held)
			spoil(cw.Rows)
			spoil(ccw.Rows)
		}
		for i := range given {
			for link := range 4 {
				untouched(t, given[i][link/2][link%2], told[i][link/2][link%2])
			}
		}
		untouched(t, owns[:len(owns):len(owns)], toldOwns[:len(owns):len(owns)])
	}
}

func TestNothingHandedInIsKept(t *testing.T) { // R1, R5: what becomes of it behind a call, and of what was answered, changes nothing
	source := rand.New(rand.NewSource(7))
	for n := api.MinNodes; n <= api.MaxNodes; n++ {
		b := twins(t, n, source.Intn(n))
		few := []words.Row{rowOf(n, 1), rowOf(n, 2), anyRow(source), {}}
		for range 4 * n {
			in, own := broughtBy(anyIns(source, few)), clonedRow(few[source.Intn(len(few))])
			want := b.record.hear(in.ins())
			held := b.lane.Hear(in.ins())
			in.spoilAll()
			wantRows(t, b.what("Hear"), held, want)
			spoil(held)
			wantCw, wantCcw := b.record.say(own)
			cw, ccw := b.lane.Say(own)
			spoil([]words.Row{own})
			wantRows(t, b.what("CW"), cw.Rows, wantCw)
			spoil(cw.Rows)
			wantRows(t, b.what("CCW, behind a change of CW"), ccw.Rows, wantCcw)
			spoil(ccw.Rows)
		}
	}
}

func TestAnswersShareNothing(t *testing.T) { // R4: neither with others, nor within: no row's table, and no list of rows, stands twice
	for _, n := range []int{4, 7, api.MaxNodes} {
		for _, me := range []int{0, n - 1} {
			l := made(t, n, me)
			tables, lists := map[*words.Held]int{}, map[*words.Row]int{}
			see := func(rows []words.Row) {
				lists[&rows[0]]++
				for _, r := range rows {
					if len(r.Table) > 0 {
						tables[&r.Table[0]]++
					}
				}
			}
			word, own := rowsOf(n, 1), rowOf(n, 9)
			see(word)
			see([]words.Row{own})
			for range 3 * n {
				see(l.Hear(brought{{word, word}, {word, word}}.ins()))
				cw, ccw := l.Say(own)
				see(cw.Rows)
				see(ccw.Rows)
			}
			if len(lists) != 2+9*n || len(tables) != n+1+n*(2*n)+2*n*(3*n) {
				t.Errorf("node %d of %d: %d lists, %d tables", me, n, len(lists), len(tables))
			}
		}
	}
}

// ring of lanes: what goes out over its links comes a tick later by near ones, two ticks later by far ones.
type ring struct {
	*testing.T
	n     int
	lanes []*tracks.Lane
	since []int          // of each node: the first tick of its lane
	sent  [][]words.Word // by ticks, by links: four of each node, CW near and far, CCW near and far
	said  [][]words.Row  // by ticks, by nodes: what its lane was told to say, in plain form
	held  [][]words.Row  // in the last tick, by nodes
	bad   map[int]bool   // nodes of which nothing is promised
}

func newRing(t *testing.T, n int) *ring {
	return &ring{T: t, n: n, lanes: make([]*tracks.Lane, n), since: make([]int, n), bad: map[int]bool{}}
}

// came over the link of a node some ticks ago.
func (r *ring) came(node, link, ago int) words.Word {
	if at := len(r.sent) - ago; at >= 0 {
		return r.sent[at][4*((node+r.n)%r.n)+link]
	}
	return words.Word{}
}

// fault: what a link says, where a right one would say a word.
type fault func(r *ring, link int, right words.Word) words.Word

// says: what a node does, at a tick.
func (r *ring) says(node int) words.Row {
	tick := len(r.said)
	if (tick+node)%11 == 10 {
		return words.Row{} // as one that boots
	}
	return disguised(rowOf(r.n, 37*tick+1000*node), tick+node)
}

// step: a tick, with power at some nodes, in which these links say what they like.
func (r *ring) step(power func(node int) bool, wrong func(link int) bool, f fault) {
	r.Helper()
	sent, said := make([]words.Word, 4*r.n), make([]words.Row, r.n)
	r.held = make([][]words.Row, r.n)
	for node := range r.n {
		if !power(node) {
			r.lanes[node] = nil
			continue
		}
		if r.lanes[node] == nil {
			r.lanes[node], r.since[node] = made(r.T, r.n, node), len(r.sent)
		}
		l := r.lanes[node]
		r.held[node] = l.Hear(tracks.Ins{CwNear: r.came(node-1, 0, 1), CwFar: r.came(node-2, 1, 2), CcwNear: r.came(node+1, 2, 1), CcwFar: r.came(node+2, 3, 2)})
		own := r.says(node)
		said[node] = words.Plain(r.n, own)
		cw, ccw := l.Say(own)
		sent[4*node], sent[4*node+1], sent[4*node+2], sent[4*node+3] = cw, cw, ccw, ccw
	}
	for link := range sent {
		if wrong(link) {
			sent[link] = f(r, link, sent[link])
		}
	}
	r.sent, r.said = append(r.sent, sent), append(r.said, said)
}

// check that who is right holds of others that are just what they said, N ticks ago, or if that may be (some are switched off), nothing.
// How often it was what somebody said.
func (r *ring) check(orNothing bool) (often int) {
	r.Helper()
	now := len(r.sent) - 1
	for node, held := range r.held {
		if held == nil || r.bad[node] {
			continue
		}
		for source, row := range held {
			want := words.Row{}
			if of := now - r.n; of >= r.since[node] {
				want = r.said[of][source]
			}
			switch {
			case r.bad[source]:
			case alike(row, want):
				if row.Is {
					often++
				}
			case row.Is || !orNothing || source == node:
				r.Fatalf("of %d nodes, tick %d: node %d holds of node %d %+v\nwant %+v", r.n, now, node, source, row, want)
			}
		}
	}
	return often
}

// tellsOf: the tick of which a link tells at a source, by its sender's distance.
func (r *ring) tellsOf(link, source int) int {
	return len(r.sent) - distance(r.n, api.Dir(link%4/2), source, link/4)
}

// faults, and one that is any of them by chance. Of a source that is forged the same row is told everywhere, so that any two would be certified.
func faults(seed int64) (all []fault, mixes fault) {
	source := rand.New(rand.NewSource(seed))
	silent := func(*ring, int, words.Word) words.Word { return words.Word{} }
	noise := func(r *ring, _ int, _ words.Word) words.Word {
		out := words.Word{}
		for range source.Intn(20) {
			out.Rows = append(out.Rows, anyRow(source))
		}
		return out
	}
	forges := func(r *ring, link int, right words.Word) words.Word {
		out := words.Word{}
		for s := range r.n {
			out.Rows = append(out.Rows, rowOf(r.n, 7+5*(r.tellsOf(link, s)+3*r.n)+s))
		}
		return out
	}
	lies := func(r *ring, link int, right words.Word) words.Word {
		out := words.Word{Rows: slices.Clone(right.Rows)}
		if len(out.Rows) > 0 {
			out.Rows[link/4] = rowOf(r.n, 4*len(r.sent)+link%4) // of itself to each another
		}
		return out
	}
	late := func(r *ring, link int, _ words.Word) words.Word {
		if ago := 1 + link%4; ago <= len(r.sent) {
			return r.sent[len(r.sent)-ago][link]
		}
		return words.Word{}
	}
	rows := func(r *ring, link int, right words.Word) words.Word {
		out := words.Word{Rows: slices.Clone(right.Rows)}
		forged := forges(r, link, right)
		for s := range out.Rows {
			switch source.Intn(4) {
			case 0:
				out.Rows[s] = words.Row{}
			case 1:
				out.Rows[s] = forged.Rows[s]
			case 2:
				out.Rows[s] = right.Rows[source.Intn(len(right.Rows))]
			}
		}
		return out
	}
	all = []fault{silent, noise, forges, lies, late, rows}
	mixes = func(r *ring, link int, right words.Word) words.Word {
		return all[source.Intn(len(all))](r, link, right)
	}
	return append(slices.Clone(all), mixes), mixes
}

func always(int) bool { return true }
func never(int) bool  { return false }

// of: is a link one of a node's?
func of(node int) func(link int) bool { return func(link int) bool { return link/4 == node } }

// just one link.
func just(one int) func(link int) bool { return func(link int) bool { return link == one } }

// hold fails if those that are right ever hold of one another anything but what they said.
func hold(t *testing.T, n int, wrong func(link int) bool, bad int, f fault) {
	t.Helper()
	r := newRing(t, n)
	r.bad[bad] = true
	for range n + 20 {
		r.step(always, wrong, f)
		r.check(false)
	}
}

func TestAllHoldWhatAllSaid(t *testing.T) { // P14.3: where nothing is wrong
	for n := api.MinNodes; n <= api.MaxNodes; n++ {
		hold(t, n, never, -1, nil)
	}
}

func TestOneNodeSaysWhatItLikes(t *testing.T) { // P14.3: others hold of each other one just what it said
	for n := api.MinNodes; n <= api.MaxNodes; n++ {
		i := n
		all, _ := faults(int64(n))
		for _, f := range all {
			for node := range n {
				if n <= 5 || node == i%n {
					hold(t, n, of(node), node, f)
				}
			}
			i += 3
		}
	}
}

func TestOneLinkSaysWhatItLikes(t *testing.T) { // P14.3: all hold of each one just what it said
	for n := api.MinNodes; n <= api.MaxNodes; n++ {
		i := n
		all, _ := faults(int64(100 + n))
		for _, f := range all {
			for link := range 4 * n {
				if n == 4 || link == i%(4*n) {
					hold(t, n, just(link), -1, f)
				}
			}
			i += 5
		}
	}
}

func TestNodesSwitchedOff(t *testing.T) { // P14.3: what is held is what was said, or nothing; with one node, or one link, that says what it likes, and without
	source := rand.New(rand.NewSource(8))
	for n := api.MinNodes; n <= api.MaxNodes; n++ {
		for _, wrong := range []string{"none", "node", "link"} {
			r, links := newRing(t, n), never
			_, f := faults(int64(200 + n))
			switch wrong {
			case "node":
				bad := source.Intn(n)
				r.bad[bad], links = true, of(bad)
			case "link":
				links = just(source.Intn(4 * n))
			}
			on, often := make([]bool, n), 0
			for range 6 * n {
				for node := range on {
					// Most have power, and few lose it, for a while.
					if on[node] && source.Intn(4*n) == 0 || !on[node] && source.Intn(n) == 0 {
						on[node] = !on[node]
					}
				}
				r.step(func(node int) bool { return on[node] }, links, f)
				often += r.check(true)
			}
			if often < n {
				t.Errorf("of %d nodes, wrong: %s: held what was said %d times alone", n, wrong, often)
			}
		}
	}
}

func TestANodeThatComesBack(t *testing.T) { // P14.2, P14.3: holds nothing of what was said ahead of its first tick, and all others hold what was said, or nothing
	for n := api.MinNodes; n <= api.MaxNodes; n++ {
		for i, off := range []int{1, 2, n} {
			if n > 8 && i != n%3 {
				continue
			}
			r, node := newRing(t, n), (n+off)%n
			down := n + 3
			for tick := range 4*n + 6 {
				back := tick - down - off
				r.step(func(x int) bool { return x != node || tick < down || back >= 0 }, never, nil)
				// One that is off is as one that says nothing: all others lose nothing of one another.
				r.check(false)
				if back >= 0 && back < n {
					wantRows(t, "back for "+strconv.Itoa(back), r.held[node], noRows(n))
				}
			}
		}
	}
}
