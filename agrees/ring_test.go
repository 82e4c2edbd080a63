package agrees_test

import (
	"math/rand"
	"slices"
	"testing"

	"sennit/agrees"
	"sennit/api"
	"sennit/tracks"
	"sennit/words"
)

// state of a node: without power, or hearing alone, or saying what it holds as well.
type state int

const (
	off state = iota
	boots
	on
)

// ring of lanes over links: a neighbour link brings what was said a tick ago, a skip what was said two ticks ago.
type ring struct {
	*testing.T
	n     int
	bad   int               // the node of which nothing is promised; -1: none
	lanes []*tracks.Lane    // of each node; nil, if it is off
	sent  [][][4]words.Word // by ticks, by nodes: CW by the neighbour link and by the skip, CCW likewise
	said  [][]words.Held    // by ticks, by nodes: its cell, in plain form, if it said one
	held  [][]words.Row     // in the last tick, by nodes; nil, if it is off
}

func newRing(t *testing.T, n, bad int) *ring {
	return &ring{T: t, n: n, bad: bad, lanes: make([]*tracks.Lane, n)}
}

// came over a link of the node that stands so many steps from this one, as many ticks ago.
func (r *ring) came(node, steps, link int) words.Word {
	ago := max(steps, -steps)
	if ago > len(r.sent) {
		return words.Word{}
	}
	return r.sent[len(r.sent)-ago][(node+steps+r.n)%r.n][link]
}

// cell that a node says at a tick: not always plain, and sometimes what others say, too.
func (r *ring) cell(node int) api.Cell {
	tick := len(r.sent)
	c := cellOf(1 + tick + 1000*node)
	switch (tick + node) % 7 {
	case 0:
		c.Age, c.Offer.P.Kind = -5, 9
	case 1:
		c = cellOf(tick)
	}
	return c
}

// fault: what goes out over a link, where a right node would give a word.
type fault func(r *ring, node, link int, right words.Word) words.Word

// step: a tick, of nodes in these states, in which links say what they like.
func (r *ring) step(states func(node int) state, wrong func(node, link int) bool, f fault) {
	r.Helper()
	sent, said := make([][4]words.Word, r.n), make([]words.Held, r.n)
	r.held = make([][]words.Row, r.n)
	for node := range r.n {
		if states(node) == off {
			r.lanes[node] = nil
			continue
		}
		if r.lanes[node] == nil {
			r.lanes[node], _ = tracks.New(r.n, node)
		}
		r.held[node] = r.lanes[node].Hear(tracks.Ins{CwNear: r.came(node, -1, 0), CwFar: r.came(node, -2, 1), CcwNear: r.came(node, 1, 2), CcwFar: r.came(node, 2, 3)})
		own := words.Row{}
		if states(node) == on {
			own = words.Row{Is: true, Cell: r.cell(node), Table: agrees.Table(r.held[node])}
			said[node] = has(words.Cell(own.Cell))
		}
		cw, ccw := r.lanes[node].Say(own)
		sent[node] = [4]words.Word{cw, cw, ccw, ccw}
	}
	for node := range r.n {
		for link := range 4 {
			if wrong(node, link) {
				sent[node][link] = f(r, node, link, sent[node][link])
			}
		}
	}
	r.sent, r.said = append(r.sent, sent), append(r.said, said)
}

// count of what was seen to be agreed.
type count struct {
	right       int // of one that is right: what it said
	badly       int // of the bad one: something
	none        int // of the bad one: nothing
	heldUnlike  int // ticks in which two that are right held of the bad one something unlike
	agreedApart int // ticks in which one that is right agreed on nothing, of somebody, and another one on something
}

// add another count.
func (c *count) add(other count) {
	c.right += other.right
	c.badly += other.badly
	c.none += other.none
	c.heldUnlike += other.heldUnlike
	c.agreedApart += other.agreedApart
}

// saidOf what was agreed in the last tick: by each node, two times N ticks ahead; nothing ahead of the first tick.
func (r *ring) saidOf(node int) words.Held {
	if of := len(r.said) - 1 - 2*r.n; of >= 0 {
		return r.said[of][node]
	}
	return words.Held{}
}

// check that all that are right agree, of each that is right, on what that said; where something else may be (some are switched off), on that or nothing;
// and of the bad one on one thing; where something else may be, on that or nothing.
func (r *ring) check(orNothing bool) count {
	r.Helper()
	seen, all := count{}, make([]words.Held, r.n)
	first := true
	for node, held := range r.held {
		if held == nil || node == r.bad {
			continue
		}
		vector := agrees.Agree(r.n, held)
		if len(vector) != r.n {
			r.Fatalf("node %d of %d: a vector of %d", node, r.n, len(vector))
		}
		for source, h := range vector {
			switch {
			case source != r.bad && h != r.saidOf(source) && (h.Is || !orNothing):
				r.Fatalf("of %d nodes, tick %d: node %d agrees of node %d on %+v\nthat said %+v", r.n, len(r.said)-1, node, source, h, r.saidOf(source))
			case !first && h != all[source] && (!orNothing || h.Is && all[source].Is):
				r.Fatalf("of %d nodes, tick %d: node %d agrees of node %d on %+v\nanother one on %+v", r.n, len(r.said)-1, node, source, h, all[source])
			case source == r.bad && h.Is:
				seen.badly++
			case source == r.bad:
				seen.none++
			case h.Is:
				seen.right++
			}
			if !first && h.Is != all[source].Is {
				seen.agreedApart = 1
			}
			if h.Is {
				all[source] = h
			}
		}
		first = false
	}
	seen.heldUnlike = r.heldUnlike()
	return seen
}

// heldUnlike: 1, if two that are right hold something unlike of the bad one.
func (r *ring) heldUnlike() int {
	last := -1
	for node, held := range r.held {
		if held == nil || r.bad < 0 || node == r.bad {
			continue
		}
		if last >= 0 && !words.Same(held[r.bad], r.held[last][r.bad]) {
			return 1
		}
		last = node
	}
	return 0
}

// forged row of a source, of a tick: each cell is another one than somebody says.
func forged(n, source, tick, k int) words.Row {
	out := words.Row{Is: true, Cell: cellOf(100000 + 100*tick + source + 20000*k)}
	for i := range n {
		out.Table = append(out.Table, has(cellOf(200000+100*tick+i+20000*k)))
	}
	return out
}

// saysNothing, on any link.
func saysNothing(*ring, int, int, words.Word) words.Word { return words.Word{} }

// forgesAll rows, each dated as it would be if all ways were this node's.
func forgesAll(r *ring, node, link int, _ words.Word) words.Word {
	out := words.Word{}
	for source := range r.n {
		steps := (node - source + r.n) % r.n
		if link >= 2 {
			steps = (r.n - steps) % r.n
		}
		out.Rows = append(out.Rows, forged(r.n, source, len(r.sent)-steps+100, 0))
	}
	return out
}

// withOwn: a word with another row of the node itself.
func withOwn(node int, w words.Word, own words.Row) words.Word {
	rows := slices.Clone(w.Rows)
	if node < len(rows) {
		rows[node] = own
	}
	return words.Word{Rows: rows}
}

// accuses all others: its own cell is as it should be, but what it holds of them is not.
func accuses(r *ring, node, _ int, right words.Word) words.Word {
	own := words.Row{}
	if node < len(right.Rows) {
		own = words.Copy(right.Rows[node])
	}
	for i := range own.Table {
		switch (i + len(r.sent)) % 3 {
		case 0:
			own.Table[i] = words.Held{}
		case 1:
			own.Table[i] = own.Table[(i+1)%len(own.Table)]
		case 2:
			own.Table[i] = has(cellOf(300000 + len(r.sent)))
		}
	}
	return withOwn(node, right, own)
}

// doubleTalk: on each link nothing, or one of three rows, as its own; in 256 ticks each way in which that may be.
func doubleTalk(r *ring, node, link int, right words.Word) words.Word {
	tick := len(r.sent)
	way := (85 * tick >> (2 * link)) % 4
	if way == 0 {
		return withOwn(node, right, words.Row{})
	}
	return withOwn(node, right, forged(r.n, node, tick, way))
}

// saysLate what it said some ticks ago, on each link another number of these.
func saysLate(r *ring, node, link int, _ words.Word) words.Word {
	if ago := 1 + link; ago <= len(r.sent) {
		return r.sent[len(r.sent)-ago][node][link]
	}
	return words.Word{}
}

// saysAny rows, by chance.
func saysAny(source *rand.Rand) fault {
	return func(r *ring, _, _ int, _ words.Word) words.Word { return words.Word{Rows: anyRows(source, r.n)} }
}

// mixes of what is right, forged and nothing, row by row.
func mixes(source *rand.Rand) fault {
	return func(r *ring, node, link int, right words.Word) words.Word {
		out, other := words.Word{Rows: slices.Clone(right.Rows)}, forgesAll(r, node, link, right)
		for i := range out.Rows {
			switch source.Intn(4) {
			case 0:
				out.Rows[i] = words.Row{}
			case 1:
				out.Rows[i] = other.Rows[i]
			case 2:
				out.Rows[i] = right.Rows[source.Intn(len(right.Rows))]
			}
		}
		return out
	}
}

// faults, the last one of which is any of the others by chance.
func faults(seed int64) []fault {
	source := rand.New(rand.NewSource(seed))
	all := []fault{saysNothing, forgesAll, accuses, doubleTalk, saysLate, saysAny(source), mixes(source)}
	return append(all, func(r *ring, node, link int, right words.Word) words.Word {
		return all[source.Intn(len(all))](r, node, link, right)
	})
}

func allOn(int) state { return on }

func noLink(int, int) bool { return false }

// linksOf a node, all four.
func linksOf(bad int) func(node, link int) bool {
	return func(node, _ int) bool { return node == bad }
}

// oneLink of a node.
func oneLink(bad, one int) func(node, link int) bool {
	return func(node, link int) bool { return node == bad && link == one }
}

// agree fails if those that are right ever do not, where all say what they hold from the first tick on.
func agree(t *testing.T, n, bad, ticks int, wrong func(node, link int) bool, f fault) count {
	t.Helper()
	r, seen := newRing(t, n, bad), count{}
	for range 2*n + ticks {
		r.step(allOn, wrong, f)
		seen.add(r.check(false))
	}
	rights := n
	if bad >= 0 {
		rights--
	}
	// Of each that is right, by each that is right, in each tick but the first ones.
	if seen.right != ticks*rights*rights {
		t.Fatalf("of %d nodes: agreed %d times", n, seen.right)
	}
	return seen
}

func TestAllSayWhatTheyHold(t *testing.T) { // P15.3: where nothing is wrong
	for n := api.MinNodes; n <= api.MaxNodes; n++ {
		agree(t, n, -1, 20, noLink, nil)
	}
}

func TestOneNodeSaysWhatItLikes(t *testing.T) { // P15.3: all others agree on one vector, of each of them on what it said
	for n := api.MinNodes; n <= api.MaxNodes; n++ {
		seen := count{}
		for i, f := range faults(int64(n)) {
			for bad := range n {
				if n == api.MinNodes || bad == (n+3*i)%n {
					seen.add(agree(t, n, bad, 10, linksOf(bad), f))
				}
			}
		}
		if seen.badly == 0 || seen.none == 0 || seen.heldUnlike == 0 {
			t.Errorf("of %d nodes: %+v", n, seen)
		}
	}
}

func TestOneNodeTellsEachSomethingElse(t *testing.T) { // P15.3: in each way in which it may say three rows, or nothing, of itself
	for n := api.MinNodes; n <= 6; n++ {
		for bad := range n {
			if n > api.MinNodes && bad != n/2 {
				continue
			}
			seen := agree(t, n, bad, 256, linksOf(bad), doubleTalk)
			if seen.badly == 0 || seen.none == 0 || seen.heldUnlike == 0 {
				t.Errorf("of %d nodes: %+v", n, seen)
			}
		}
	}
}

func TestOneLinkSaysWhatItLikes(t *testing.T) { // P15.3: all agree on one vector, of each on what it said
	for n := api.MinNodes; n <= api.MaxNodes; n++ {
		for i, f := range faults(int64(100 + n)) {
			for at := range 4 * n {
				if n == api.MinNodes || at == (5*i+n)%(4*n) && i%2 == n%2 {
					agree(t, n, -1, 4, oneLink(at/4, at%4), f)
				}
			}
		}
	}
}

func TestNodesSwitchedOff(t *testing.T) { // P15.3: what is agreed is what was said, or nothing; with one node, or one link, that says what it likes, and without
	source := rand.New(rand.NewSource(9))
	for n := api.MinNodes; n <= api.MaxNodes; n++ {
		all := faults(int64(200 + n))
		for _, c := range []struct {
			bad   int
			wrong func(node, link int) bool
		}{{-1, noLink}, {n / 2, linksOf(n / 2)}, {-1, oneLink(n/3, n%4)}} {
			r, states, seen := newRing(t, n, c.bad), make([]state, n), count{}
			for range 4*n + 60 {
				for node, s := range states {
					// Most have power, and say what they hold; few lose it, for a while.
					switch {
					case s == on && source.Intn(8*n) == 0:
						states[node] = off
					case s != on && source.Intn(n) < 2:
						states[node]++
					}
				}
				r.step(func(node int) state { return states[node] }, c.wrong, all[len(all)-1])
				seen.add(r.check(true))
			}
			if seen.right < n*n || seen.agreedApart == 0 || c.bad >= 0 && (seen.badly == 0 || seen.none == 0) {
				t.Errorf("of %d nodes, bad %d: %+v", n, c.bad, seen)
			}
		}
	}
}

func TestNodesThatBoot(t *testing.T) { // P15.3: what was said, or nothing, till all have said what they hold for twice as many ticks as there are nodes; then just that
	for n := api.MinNodes; n <= api.MaxNodes; n++ {
		for i, f := range faults(int64(300 + n)) {
			if n > 6 && i%4 != n%4 {
				continue
			}
			bad, ticks := (n+3*i)%n, 5
			r, seen := newRing(t, n, bad), count{}
			for tick := range 3*n + ticks {
				// Each has power for as many ticks till it speaks as it was off; the last ones speak at tick n, or one ahead of it.
				states := func(node int) state { return min(on, state(tick/(1+(node+i)%(n/2)))) }
				r.step(states, linksOf(bad), f)
				seen.add(r.check(tick < 3*n))
			}
			if seen.right < (n-1)*(n-1)*ticks {
				t.Errorf("of %d nodes: %+v", n, seen)
			}
		}
	}
}

func TestANodeThatComesBack(t *testing.T) { // P15.3: where nothing is wrong: all others agree on what all said, throughout; it does as many ticks later as there are nodes
	for n := api.MinNodes; n <= api.MaxNodes; n++ {
		for i, long := range []int{1, 2, n, 2*n + 1} {
			if n > 6 && i != n%4 {
				continue
			}
			r, node, down := newRing(t, n, -1), (n+long)%n, 2*n+3
			for tick := range down + long + 3*n {
				back := tick - down - long
				r.step(func(x int) state {
					if x == node && tick >= down && back < 0 {
						return off
					}
					return on
				}, noLink, nil)
				if back >= 0 && back < n {
					wantHeld(t, what("nodes, back", n, back), agrees.Agree(n, r.held[node]), make([]words.Held, n))
					r.held[node] = nil
				}
				r.check(false)
			}
		}
	}
}
