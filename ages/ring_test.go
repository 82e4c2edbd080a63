package ages_test

import (
	"math/rand"
	"slices"
	"testing"

	"sennit/ages"
	"sennit/agrees"
	"sennit/api"
	"sennit/tracks"
	"sennit/words"
)

// ring of nodes over links: a neighbour link brings what was said a tick ago, a skip what was said two ticks ago.
type ring struct {
	n      int
	begins []int // the tick from which on a node says its age; ahead of it, it hears alone
	lanes  []*tracks.Lane
	clocks []*ages.Clock
	sent   [][][4]words.Word // by ticks, by nodes: CW by the neighbour link and by the skip, CCW likewise
	shows  []int64           // by nodes, in the last tick
}

func newRing(t *testing.T, begins []int) *ring {
	t.Helper()
	r := &ring{n: len(begins), begins: begins, shows: make([]int64, len(begins))}
	for node := range begins {
		lane, _ := tracks.New(r.n, node)
		r.lanes, r.clocks = append(r.lanes, lane), append(r.clocks, newClock(t, r.n))
	}
	return r
}

// came over a link of the node that stands so many steps from this one, as many ticks ago.
func (r *ring) came(node, steps, link int) words.Word {
	ago := max(steps, -steps)
	if ago > len(r.sent) {
		return words.Word{}
	}
	return r.sent[len(r.sent)-ago][(node+steps+r.n)%r.n][link]
}

// fault: what goes out over a link, where a right node would give a word.
type fault func(r *ring, node, link int, right words.Word) words.Word

// step: a tick, in which some links say what they like.
func (r *ring) step(wrong func(node, link int) bool, f fault) {
	tick, sent := len(r.sent), make([][4]words.Word, r.n)
	for node := range r.n {
		held := r.lanes[node].Hear(tracks.Ins{CwNear: r.came(node, -1, 0), CwFar: r.came(node, -2, 1), CcwNear: r.came(node, 1, 2), CcwFar: r.came(node, 2, 3)})
		cold := int64(max(-1, tick-r.begins[node]))
		age, shows := r.clocks[node].Step(ages.Common(r.n, agrees.Agree(r.n, held)), cold)
		r.shows[node] = shows
		own := words.Row{}
		if cold >= 0 {
			own = words.Row{Is: true, Cell: api.Cell{Age: age}, Table: agrees.Table(held)}
		}
		cw, ccw := r.lanes[node].Say(own)
		sent[node] = [4]words.Word{cw, cw, ccw, ccw}
	}
	for node := range r.n {
		for link := range 4 {
			if wrong(node, link) {
				sent[node][link] = f(r, node, link, sent[node][link])
			}
		}
	}
	r.sent = append(r.sent, sent)
}

// saysNothing, on any link.
func saysNothing(*ring, int, int, words.Word) words.Word { return words.Word{} }

// saysAge: as it should be, but for its own age.
func saysAge(age func(r *ring, link int, right int64) int64) fault {
	return func(r *ring, node, link int, right words.Word) words.Word {
		rows := slices.Clone(right.Rows)
		rows[node].Is = true
		rows[node].Cell.Age = age(r, link, rows[node].Cell.Age)
		return words.Word{Rows: rows}
	}
}

// shuffles what is right: each row, and each cell that it holds, is at times another one, or of another age.
func shuffles(source *rand.Rand) fault {
	return func(r *ring, _, _ int, right words.Word) words.Word {
		out := words.Word{}
		for _, row := range right.Rows {
			if source.Intn(3) == 0 {
				row = right.Rows[source.Intn(r.n)]
			}
			row = words.Copy(row)
			for i := range row.Table {
				if source.Intn(3) == 0 {
					row.Table[i] = words.Held{Is: source.Intn(3) > 0, Cell: api.Cell{Age: anyAge(source)}}
				}
			}
			if source.Intn(3) == 0 {
				row.Cell.Age = anyAge(source)
			}
			out.Rows = append(out.Rows, row)
		}
		return out
	}
}

// faults: of the last ones each says any age, or any row, by chance.
func faults(seed int64) []fault {
	source := rand.New(rand.NewSource(seed))
	return []fault{
		saysNothing,
		saysAge(func(*ring, int, int64) int64 { return 0 }),
		saysAge(func(*ring, int, int64) int64 { return most }),
		saysAge(func(_ *ring, _ int, right int64) int64 { return right + 1 }),
		saysAge(func(_ *ring, _ int, right int64) int64 { return right - 1 }),
		saysAge(func(r *ring, link int, right int64) int64 {
			return right + int64((len(r.sent)+link)%5) - 2
		}),
		saysAge(func(*ring, int, int64) int64 { return anyAge(source) }),
		shuffles(source),
	}
}

// wrongs: nothing, one node's links, or one link.
func wrongs(n, at int) []func(node, link int) bool {
	return []func(node, link int) bool{
		func(node, _ int) bool { return node == at%n },
		func(node, link int) bool { return node == at%n && link == at/n%4 },
	}
}

func TestNobodyMovesTheOthersClocks(t *testing.T) { // P16.3: all say their ages from the first tick on: all others show how many ticks there were, whatever one node, or one link, says
	for n := api.MinNodes; n <= api.MaxNodes; n++ {
		for i, f := range faults(int64(n)) {
			if n > 6 && i%4 != n%4 {
				continue
			}
			for at := range 4 * n {
				if n > 4 && at != (5*i+n)%(4*n) {
					continue
				}
				for k, wrong := range wrongs(n, at) {
					r := newRing(t, make([]int, n))
					for tick := range int64(5 * n) {
						r.step(wrong, f)
						for node, shows := range r.shows {
							if (k > 0 || node != at%n) && shows != tick {
								t.Fatalf("of %d nodes, fault %d of %d: tick %d: node %d shows %d", n, i, at, tick, node, shows)
							}
						}
					}
				}
			}
		}
	}
}

func TestClocksComeTogether(t *testing.T) { // P16.3, as P18.3 needs it: nodes that begin at ticks of their own: 6N ticks behind the last of them all show the same, one more each tick
	for n := api.MinNodes; n <= api.MaxNodes; n++ {
		for i, f := range faults(int64(100 + n)) {
			if n > 6 && i%4 != n%4 {
				continue
			}
			source := rand.New(rand.NewSource(int64(10*n + i)))
			for k, wrong := range wrongs(n, 3*i+n) {
				begins := make([]int, n)
				for node := range begins {
					begins[node] = source.Intn([]int{2, n, 5 * n}[(i+k)%3])
				}
				r, before := newRing(t, begins), int64(-1)
				for tick := range slices.Max(begins) + 9*n {
					r.step(wrong, f)
					if tick <= slices.Max(begins)+6*n {
						before = -1
						continue
					}
					before = r.sameShown(t, wrong, before)
				}
			}
		}
	}
}

// sameShown fails if two of which all links are right show something unlike, or not one more than a tick ahead (-1: that is not told).
func (r *ring) sameShown(t *testing.T, wrong func(node, link int) bool, before int64) int64 {
	t.Helper()
	now := int64(-1)
	for node, shows := range r.shows {
		if wrong(node, 0) && wrong(node, 1) {
			continue
		}
		if shows < 0 || now >= 0 && shows != now || before >= 0 && shows != before+1 {
			t.Fatalf("of %d nodes, begun at %v: tick %d: all show %v, a tick ahead %d", r.n, r.begins, len(r.sent)-1, r.shows, before)
		}
		now = shows
	}
	return now
}
