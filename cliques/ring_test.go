package cliques_test

import (
	"math/rand"
	"slices"
	"testing"

	"sennit/ages"
	"sennit/agrees"
	"sennit/api"
	"sennit/cliques"
	"sennit/tracks"
	"sennit/words"
)

// node that has power.
type node struct {
	lane   *tracks.Lane
	clock  *ages.Clock
	clique *cliques.Clique
	since  int // how many ticks it had power ahead of this one
	shows  int64
	sure   bool
}

// ring of nodes over links: a neighbour link brings what was said a tick ago, a skip what was said two ticks ago.
type ring struct {
	n     int
	boots []int             // of each node: ticks from its power on till it says its age
	nodes []*node           // nil: without power
	sent  [][][4]words.Word // by ticks, by nodes: CW by the neighbour link and by the skip, CCW likewise
}

func newRing(boots []int) *ring {
	return &ring{n: len(boots), boots: boots, nodes: make([]*node, len(boots))}
}

// came over a link of the node that stands so many steps from this one, as many ticks ago.
func (r *ring) came(at, steps, link int) words.Word {
	ago := max(steps, -steps)
	if ago > len(r.sent) {
		return words.Word{}
	}
	return r.sent[len(r.sent)-ago][(at+steps+r.n)%r.n][link]
}

// switched: the node, made anew if it had no power till now.
func (r *ring) switched(at int, power bool) *node {
	x := r.nodes[at]
	switch {
	case !power:
		x = nil
	case x != nil:
		x.since++
	default:
		x = &node{}
		x.lane, _ = tracks.New(r.n, at)
		x.clock, _ = ages.New(r.n)
		x.clique, _ = cliques.New(r.n)
	}
	r.nodes[at] = x
	return x
}

// tick of a node with power: what goes out over its links.
func (r *ring) tick(at int, x *node) [4]words.Word {
	held := x.lane.Hear(tracks.Ins{CwNear: r.came(at, -1, 0), CwFar: r.came(at, -2, 1), CcwNear: r.came(at, 1, 2), CcwFar: r.came(at, 2, 3)})
	agreed := agrees.Agree(r.n, held)
	common, cold := ages.Common(r.n, agreed), int64(max(-1, x.since-r.boots[at]))
	age, shows := x.clock.Step(common, cold)
	x.shows, x.sure = shows, x.clique.Step(agreed, common) && cold >= 0
	own := words.Row{}
	if cold >= 0 {
		own = words.Row{Is: true, Cell: api.Cell{Age: age}, Table: agrees.Table(held)}
	}
	cw, ccw := x.lane.Say(own)
	return [4]words.Word{cw, cw, ccw, ccw}
}

// fault: what goes out over a link, where a right node would give a word.
type fault func(r *ring, at, link int, right words.Word) words.Word

// step: a tick, in which some have power, and some links say what they like.
func (r *ring) step(power func(at int) bool, wrong func(at, link int) bool, f fault) {
	sent := make([][4]words.Word, r.n)
	for at := range r.n {
		if x := r.switched(at, power(at)); x != nil {
			sent[at] = r.tick(at, x)
		}
	}
	for at := range r.n {
		for link := range 4 {
			if wrong(at, link) {
				sent[at][link] = f(r, at, link, sent[at][link])
			}
		}
	}
	r.sent = append(r.sent, sent)
}

// sure: how many right nodes are, and what they show; it fails if two of them show something unlike.
func (r *ring) sure(t *testing.T, wrong func(at, link int) bool) (count int, shows int64) {
	t.Helper()
	for at, x := range r.nodes {
		if x == nil || !x.sure || isBad(wrong, at) {
			continue
		}
		if x.shows < 0 || count > 0 && x.shows != shows {
			t.Fatalf("of %d nodes, tick %d: node %d is sure, and shows %d, another one %d", r.n, len(r.sent)-1, at, x.shows, shows)
		}
		count, shows = count+1, x.shows
	}
	return count, shows
}

// isBad: of a node that is wrong all links are; where a link is wrong, all nodes are right.
func isBad(wrong func(at, link int) bool, at int) bool { return wrong(at, 0) && wrong(at, 1) }

// rights: how many nodes are right.
func rights(n int, wrong func(at, link int) bool) int {
	count := 0
	for at := range n {
		if !isBad(wrong, at) {
			count++
		}
	}
	return count
}

// saysNothing, on any link.
func saysNothing(*ring, int, int, words.Word) words.Word { return words.Word{} }

// saysAge: as it should be, but for its own age.
func saysAge(age func(r *ring, link int, right int64) int64) fault {
	return func(r *ring, at, link int, right words.Word) words.Word {
		rows := slices.Clone(right.Rows)
		if at < len(rows) {
			rows[at].Is = true
			rows[at].Cell.Age = age(r, link, rows[at].Cell.Age)
		}
		return words.Word{Rows: rows}
	}
}

// shuffles what is right: each row, and each cell that it holds, is at times another one, or of another age.
func shuffles(source *rand.Rand) fault {
	return func(r *ring, _, _ int, right words.Word) words.Word {
		out := words.Word{}
		for _, row := range right.Rows {
			if source.Intn(3) == 0 {
				row = right.Rows[source.Intn(r.n)]
			}
			row = words.Copy(row)
			for i := range row.Table {
				if source.Intn(3) == 0 {
					row.Table[i] = words.Held{Is: source.Intn(3) > 0, Cell: api.Cell{Age: nearAge(r, source)}}
				}
			}
			if source.Intn(3) == 0 {
				row.Cell.Age = nearAge(r, source)
			}
			out.Rows = append(out.Rows, row)
		}
		return out
	}
}

// nearAge: mostly near how many ticks there were.
func nearAge(r *ring, source *rand.Rand) int64 {
	if source.Intn(8) == 0 {
		return []int64{-1, 0, most, most + 1}[source.Intn(4)]
	}
	return int64(len(r.sent) - source.Intn(3*r.n))
}

// faults: of the last ones each says any age, or any row, by chance.
func faults(seed int64) []fault {
	source := rand.New(rand.NewSource(seed))
	return []fault{
		saysNothing,
		saysAge(func(*ring, int, int64) int64 { return 0 }),
		saysAge(func(*ring, int, int64) int64 { return most }),
		saysAge(func(_ *ring, _ int, right int64) int64 { return right + 1 }),
		saysAge(func(r *ring, link int, right int64) int64 { return right + int64((len(r.sent)+link)%5) - 2 }),
		saysAge(func(r *ring, _ int, _ int64) int64 { return nearAge(r, source) }),
		shuffles(source),
	}
}

// wrongs: one node's links, one link, or nothing.
func wrongs(n, by int) []func(at, link int) bool {
	return []func(at, link int) bool{
		func(at, _ int) bool { return at == by%n },
		func(at, link int) bool { return at == by%n && link == by/n%4 },
		func(int, int) bool { return false },
	}
}

func allOn(int) bool { return true }

// some of the cases: all of them of few nodes, one in so many of more nodes, as these take longer.
func some(n, i, of int) bool { return n <= 5 || i%of == n%of }

func TestSureFromTheFirstTickOn(t *testing.T) { // P17.3: all say their ages from the first tick on: all others are sure 4N - 1 ticks later, not earlier, and show how many ticks there were, whatever one node, or one link, says
	for n := api.MinNodes; n <= api.MaxNodes; n++ {
		for i, f := range faults(int64(n)) {
			for k, wrong := range wrongs(n, 3*i+n) {
				if !some(n, 3*i+k, 7) {
					continue
				}
				r := newRing(make([]int, n))
				for tick := range 5 * n {
					r.step(allOn, wrong, f)
					count, shows := r.sure(t, wrong)
					want := 0
					if tick >= 4*n-1 {
						want = rights(n, wrong)
					}
					if count != want || count > 0 && shows != int64(tick) {
						t.Fatalf("of %d nodes, fault %d, %d wrong: at tick %d %d are sure, and show %d", n, i, k, tick, count, shows)
					}
				}
			}
		}
	}
}

func TestSureTogether(t *testing.T) { // P17.3, as P18.3 needs it: nodes get power, and boot, at ticks of their own: those that are sure show the same, and 6N ticks behind the last of them all are, and show one more each tick
	early := 0
	for n := api.MinNodes; n <= api.MaxNodes; n++ {
		for i, f := range faults(int64(100 + n)) {
			source := rand.New(rand.NewSource(int64(10*n + i)))
			for k, wrong := range wrongs(n, 3*i+n) {
				if !some(n, 3*i+k, 7) {
					continue
				}
				boots, begins, last := make([]int, n), make([]int, n), 0
				for at := range boots {
					boots[at], begins[at] = source.Intn(3), source.Intn([]int{2, n, 5 * n}[(i+k)%3])
					last = max(last, begins[at]+boots[at])
				}
				r, before := newRing(boots), int64(-1)
				for tick := range last + 7*n {
					r.step(func(at int) bool { return tick >= begins[at] }, wrong, f)
					count, shows := r.sure(t, wrong)
					if tick < last+6*n {
						early += count
						continue
					}
					if count != rights(n, wrong) || before >= 0 && shows != before+1 {
						t.Fatalf("of %d nodes, fault %d, %d wrong: at tick %d %d are sure, and show %d, a tick ahead %d", n, i, k, tick, count, shows, before)
					}
					before = shows
				}
			}
		}
	}
	if early == 0 {
		t.Error("nobody was sure till 6N ticks later")
	}
}

func TestSureWhoeverIsOn(t *testing.T) { // P17.3, as P18.3 needs it: power comes and goes: at any time those that are sure show the same
	together, apart := 0, 0
	for n := api.MinNodes; n <= api.MaxNodes; n++ {
		all, source := faults(int64(200+n)), rand.New(rand.NewSource(int64(n)))
		for k, wrong := range wrongs(n, n/2+n) {
			if !some(n, k, 3) {
				continue
			}
			r, power := newRing(slices.Repeat([]int{k}, n)), make([]bool, n)
			for range 24 * n {
				for at, is := range power {
					// In most ticks all stay as they are; few have no power, for a while.
					if is && source.Intn(10*n*n) == 0 || !is && source.Intn(n) == 0 {
						power[at] = !is
					}
				}
				r.step(func(at int) bool { return power[at] }, wrong, all[source.Intn(len(all))])
				count, _ := r.sure(t, wrong)
				switch {
				case count == rights(n, wrong):
					together++
				case count > 1:
					apart++
				}
			}
		}
	}
	if together < 300 || apart < 300 {
		t.Errorf("in %d ticks all are sure, in %d some", together, apart)
	}
}

func TestSureAfterItCameBack(t *testing.T) { // P17.2, as the whole has it: where nothing else is wrong: 3N - 1 ticks later, not earlier, and with the others' clock
	for n := api.MinNodes; n <= api.MaxNodes; n++ {
		for i, long := range []int{1, 2, n, 2*n + 1, 6 * n} {
			if !some(n, i, 5) {
				continue
			}
			lost, down := (3*i+n)%n, 4*n+i
			up := down + long
			r := newRing(make([]int, n))
			for tick := range up + 4*n {
				r.step(func(at int) bool { return at != lost || tick < down || tick >= up }, func(int, int) bool { return false }, nil)
				count, shows := r.sure(t, func(int, int) bool { return false })
				want := n
				switch {
				case tick < 4*n-1:
					want = 0
				case tick >= down && tick < up+3*n-1:
					want = n - 1
				}
				if count != want || count > 0 && shows != int64(tick) {
					t.Fatalf("of %d nodes, node %d off from %d to %d: at tick %d %d are sure, and show %d", n, lost, down, up, tick, count, shows)
				}
			}
		}
	}
}
