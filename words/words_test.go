package words_test

import (
	"math"
	"math/rand"
	"reflect"
	"slices"
	"strconv"
	"testing"

	"sennit/api"
	"sennit/words"
)

// form of a thing: as it is handed in, and in plain form.
type form[T any] struct{ is, plain T }

// maybe: something that may stand in its place, or may not.
type maybe[T any] struct {
	x   T
	may bool
}

// times, of ages and of what is said: the edges, the ones about them, and ones that would wrap round.
func times() []maybe[int64] {
	return append(edgeTimes(),
		maybe[int64]{math.MinInt64 + 1, false}, maybe[int64]{-api.MaxAge, false}, maybe[int64]{-1 << 32, false}, maybe[int64]{-2, false},
		maybe[int64]{1, true}, maybe[int64]{255, true}, maybe[int64]{1 << 31, true}, maybe[int64]{1 << 32, true}, maybe[int64]{api.MaxAge - 1, true},
		maybe[int64]{api.MaxAge + 2, false}, maybe[int64]{2 * api.MaxAge, false}, maybe[int64]{math.MaxInt64 - 1, false})
}

// edgeTimes: those that the document names.
func edgeTimes() []maybe[int64] {
	return []maybe[int64]{{math.MinInt64, false}, {-1, false}, {0, true}, {api.MaxAge, true}, {api.MaxAge + 1, false}, {math.MaxInt64, false}}
}

// ages, of times.
func ages(times []maybe[int64]) []form[int64] {
	out := []form[int64]{}
	for _, at := range times {
		if at.may {
			out = append(out, form[int64]{at.x, at.x})
		} else {
			out = append(out, form[int64]{at.x, -1})
		}
	}
	return out
}

// kinds: each number that there is.
func kinds() []maybe[api.Kind] {
	out := []maybe[api.Kind]{}
	for kind := range 256 {
		out = append(out, maybe[api.Kind]{api.Kind(kind), kind == 1 || kind == 2})
	}
	return out
}

// edgeKinds: those that the document names.
func edgeKinds() []maybe[api.Kind] {
	return []maybe[api.Kind]{{0, false}, {api.PyData, true}, {api.PyCommand, true}, {3, false}, {255, false}}
}

// rests of a payload, whatever kind it is of.
func rests() []api.Payload {
	return []api.Payload{{}, {Station: 255, Seq: math.MaxUint32, Value: math.MaxUint32}, {Station: 1}, {Seq: 1 << 31}, {Value: 7}}
}

// saids of these times, kinds and rests, each set and not set, and nothing.
func saids(times []maybe[int64], kinds []maybe[api.Kind], rests []api.Payload) []form[api.Said] {
	out := []form[api.Said]{{}}
	for _, at := range times {
		for _, kind := range kinds {
			for _, p := range rests {
				p.Kind = kind.x
				set, unset := api.Said{Is: true, At: at.x, P: p}, api.Said{At: at.x, P: p}
				if at.may && kind.may {
					out = append(out, form[api.Said]{set, set})
				} else {
					out = append(out, form[api.Said]{set, api.Said{}})
				}
				out = append(out, form[api.Said]{unset, api.Said{}})
			}
		}
	}
	return out
}

// commands of a view: each number that there is.
func commands() []form[int8] {
	out := []form[int8]{}
	for x := -128; x <= 127; x++ {
		if x >= 0 && x <= 7 {
			out = append(out, form[int8]{int8(x), int8(x)})
		} else {
			out = append(out, form[int8]{int8(x), -1})
		}
	}
	return out
}

// edgeCommands: those that the document names.
func edgeCommands() []form[int8] {
	return []form[int8]{{-128, -1}, {-2, -1}, {-1, -1}, {0, 0}, {api.MaxPairs - 1, 7}, {api.MaxPairs, -1}, {127, -1}}
}

// modes of a view: each number that there is.
func modes() []form[uint8] {
	out := []form[uint8]{}
	for x := range 256 {
		if x <= 7 {
			out = append(out, form[uint8]{uint8(x), uint8(x)})
		} else {
			out = append(out, form[uint8]{uint8(x), 0})
		}
	}
	return out
}

// edgeModes: those that the document names.
func edgeModes() []form[uint8] { return []form[uint8]{{0, 0}, {7, 7}, {8, 0}, {255, 0}} }

// lastSaid: in all its parts as great as may be.
func lastSaid() api.Said {
	return api.Said{Is: true, At: api.MaxAge, P: api.Payload{Kind: api.PyCommand, Station: 255, Seq: math.MaxUint32, Value: math.MaxUint32}}
}

// fullView: plain, and with something in all parts.
func fullView() api.View {
	v := api.View{Command: 7, Mode: 7}
	for i := range api.MaxPairs {
		v.In[i], v.Got[i] = i%2 == 0, i%3 == 0
		v.Miss[i], v.Good[i], v.Score[i] = uint8(255-i), uint8(101+i), uint16(65535-i)
	}
	return v
}

// fullCell: plain, and with something in all parts.
func fullCell() api.Cell {
	return api.Cell{Age: 70000, Offer: lastSaid(), Report: api.Said{Is: true, At: 9, P: api.Payload{Kind: api.PyData, Station: 3, Seq: 4, Value: 5}}, View: fullView()}
}

// wrongCell: not plain in any part that may be so.
func wrongCell() api.Cell {
	c := fullCell()
	c.Age, c.Offer.At, c.Report.P.Kind, c.View.Command, c.View.Mode = -5, -1, 9, 99, 100
	return c
}

// wrongCellPlain: the plain form of that one.
func wrongCellPlain() api.Cell {
	c := api.Cell{Age: -1, View: fullView()}
	c.View.Command, c.View.Mode = -1, 0
	return c
}

// bases: plain cells, in one part of which something else is put.
func bases() []api.Cell {
	return []api.Cell{{}, {Age: -1, View: api.View{Command: -1}}, fullCell()}
}

// put: the cells that come of a plain one by putting each of these in one part.
func put[T any](base api.Cell, part func(*api.Cell) *T, forms []form[T]) []form[api.Cell] {
	out := []form[api.Cell]{}
	for _, f := range forms {
		is, plain := base, base
		*part(&is), *part(&plain) = f.is, f.plain
		out = append(out, form[api.Cell]{is, plain})
	}
	return out
}

func age(c *api.Cell) *int64       { return &c.Age }
func offer(c *api.Cell) *api.Said  { return &c.Offer }
func report(c *api.Cell) *api.Said { return &c.Report }
func command(c *api.Cell) *int8    { return &c.View.Command }
func mode(c *api.Cell) *uint8      { return &c.View.Mode }

// allCells and allEntries are made once, as many tests go through them; nothing changes them.
var (
	allCells   = cells()
	allEntries = entries()
)

// cells: a few of all that is put in each part alone, plain ones, and one that is wrong throughout.
func cells() []form[api.Cell] {
	out := []form[api.Cell]{{wrongCell(), wrongCellPlain()}}
	for _, base := range bases() {
		few := saids([]maybe[int64]{{-1, false}, {api.MaxAge, true}, {api.MaxAge + 1, false}}, []maybe[api.Kind]{{0, false}, {1, true}, {3, false}}, rests()[1:2])
		out = append(out, form[api.Cell]{base, base})
		out = append(out, put(base, age, ages(edgeTimes()))...)
		out = append(out, put(base, offer, few)...)
		out = append(out, put(base, report, few)...)
		out = append(out, put(base, command, edgeCommands())...)
		out = append(out, put(base, mode, edgeModes())...)
	}
	return out
}

// entries of a table: each cell, set, and not set.
func entries() []form[words.Held] {
	out := []form[words.Held]{{}}
	for _, c := range allCells {
		out = append(out, form[words.Held]{words.Held{Is: true, Cell: c.is}, words.Held{Is: true, Cell: c.plain}})
		out = append(out, form[words.Held]{words.Held{Cell: c.is}, words.Held{}})
	}
	return out
}

// table of so many entries, round from one of them on, and what a row of n nodes has of it; none at all, if many is below 0.
func table(n, many, from int) form[[]words.Held] {
	out := form[[]words.Held]{plain: make([]words.Held, n)}
	if many < 0 {
		return out
	}
	all := allEntries
	out.is = []words.Held{}
	for i := range many {
		e := all[(from+i)%len(all)]
		out.is = append(out.is, e.is)
		if i < n {
			out.plain[i] = e.plain
		}
	}
	return out
}

// lengths of a table, or of a word, of n nodes: not there, nothing, one, shorter, just as long, longer.
func lengths(n int) []int { return []int{-1, 0, 1, n - 1, n, n + 1, 2*n + 1, 17, 40} }

// rows of n nodes: set, and not set, with each length of a table, and the cells in turn.
func rows(n int) []form[words.Row] {
	all := allCells
	out := []form[words.Row]{{}, {is: words.Row{Cell: fullCell()}}, {is: words.Row{Table: []words.Held{}}}}
	for i, many := range lengths(n) {
		for k := range 3 {
			at := 31*i + 7*k + 5*n
			c, t := all[at%len(all)], table(n, many, 11*at)
			out = append(out, form[words.Row]{words.Row{Is: true, Cell: c.is, Table: t.is}, words.Row{Is: true, Cell: c.plain, Table: t.plain}})
			out = append(out, form[words.Row]{words.Row{Cell: c.is, Table: t.is}, words.Row{}})
		}
	}
	return out
}

// word of so many rows, round from one of them on, and its form of n nodes; no rows at all, if many is below 0.
func word(n, many, from int) form[words.Word] {
	out := form[words.Word]{plain: words.Word{Rows: make([]words.Row, n)}}
	if many < 0 {
		return out
	}
	all := rows(n)
	out.is.Rows = []words.Row{}
	for i := range many {
		r := all[(from+i)%len(all)]
		out.is.Rows = append(out.is.Rows, r.is)
		if i < n {
			out.plain.Rows[i] = r.plain
		}
	}
	return out
}

// wrongNumbers of nodes: ones that would wrap round to some that may be among them.
func wrongNumbers() []int {
	return []int{-1, -2, -4, -16, -17, 17, 18, 20, 32, 255, 256, 260, 1 << 16, 1<<32 + 4, -1<<32 + 4, 1 << 32, math.MinInt, math.MinInt + 1, math.MinInt + 4, math.MaxInt - 1, math.MaxInt}
}

// alike: are rows, in all that they have? (As Same says it; but with no call of the package.)
func alike(a, b words.Row) bool {
	if len(a.Table) != len(b.Table) || a.Is != b.Is || a.Cell != b.Cell {
		return false
	}
	for i, h := range a.Table {
		if h != b.Table[i] {
			return false
		}
	}
	return true
}

// wantRow fails if a row is another one, or has room behind its table.
func wantRow(t *testing.T, what string, got, want words.Row) {
	t.Helper()
	if !alike(got, want) {
		t.Fatalf("%s: %+v\nwant %+v", what, got, want)
	}
	if cap(got.Table) != len(got.Table) {
		t.Fatalf("%s: a table of %d, with room for %d", what, len(got.Table), cap(got.Table))
	}
}

// wantWord fails if a word is another one, or has room behind its rows, or their tables.
func wantWord(t *testing.T, what string, got, want words.Word) {
	t.Helper()
	if len(got.Rows) != len(want.Rows) || cap(got.Rows) != len(got.Rows) {
		t.Fatalf("%s: %d rows, with room for %d, want %d", what, len(got.Rows), cap(got.Rows), len(want.Rows))
	}
	for i, r := range got.Rows {
		wantRow(t, what+", row "+strconv.Itoa(i), r, want.Rows[i])
	}
}

// cloned: the same row, in new memory, with entries in the room behind its table.
func cloned(r words.Row) words.Row {
	if r.Table == nil {
		return r
	}
	all := slices.Clone(r.Table)
	for range 20 {
		all = append(all, words.Held{Is: true, Cell: wrongCell()})
	}
	r.Table = all[:len(r.Table)]
	return r
}

// clonedWord: the same word, in new memory, with rows, and entries, in all rooms behind.
func clonedWord(w words.Word) words.Word {
	if w.Rows == nil {
		return w
	}
	all := []words.Row{}
	for _, r := range w.Rows {
		all = append(all, cloned(r))
	}
	for range 20 {
		all = append(all, cloned(words.Row{Is: true, Cell: wrongCell(), Table: make([]words.Held, 3)}))
	}
	return words.Word{Rows: all[:len(w.Rows)]}
}

// whole: a list with what is in the room behind it.
func whole[T any](list []T) []T { return list[:cap(list)] }

// spoil all of a row's table, and the room behind it.
func spoil(r words.Row) {
	for i := range whole(r.Table) {
		whole(r.Table)[i] = words.Held{Is: true, Cell: api.Cell{Age: 12345, View: api.View{Mode: 99}}}
	}
}

// spoilWord: all of its rows, and their tables, and the room behind them.
func spoilWord(w words.Word) {
	for i, r := range whole(w.Rows) {
		spoil(r)
		whole(w.Rows)[i] = words.Row{Is: true, Cell: api.Cell{Age: 54321}, Table: make([]words.Held, 30)}
	}
}

// any cell, row and word: each part by chance one that may be, or one that may not.
func anyCell(r *rand.Rand) api.Cell {
	times := []int64{math.MinInt64, -1, 0, 5, api.MaxAge, api.MaxAge + 1, r.Int63(), r.Int63n(api.MaxAge)}
	said := func() api.Said {
		return api.Said{Is: r.Intn(3) > 0, At: times[r.Intn(len(times))], P: api.Payload{Kind: api.Kind(r.Intn(4)), Station: uint8(r.Intn(256)), Seq: r.Uint32(), Value: r.Uint32()}}
	}
	c := api.Cell{Age: times[r.Intn(len(times))], Offer: said(), Report: said()}
	for i := range api.MaxPairs {
		c.View.In[i], c.View.Got[i] = r.Intn(2) == 0, r.Intn(2) == 0
		c.View.Miss[i], c.View.Good[i], c.View.Score[i] = uint8(r.Intn(256)), uint8(r.Intn(256)), uint16(r.Intn(65536))
	}
	c.View.Command, c.View.Mode = int8(r.Intn(12)-2), uint8(r.Intn(11))
	return c
}

func anyRow(r *rand.Rand) words.Row {
	out := words.Row{Is: r.Intn(4) > 0, Cell: anyCell(r)}
	for range r.Intn(20) {
		out.Table = append(out.Table, words.Held{Is: r.Intn(3) > 0, Cell: anyCell(r)})
	}
	return out
}

func anyWord(r *rand.Rand) words.Word {
	out := words.Word{}
	for range r.Intn(20) {
		out.Rows = append(out.Rows, anyRow(r))
	}
	return out
}

// parts of a thing, down to its numbers and its bools: of each its name and itself.
func parts(v reflect.Value, name string, each func(name string, part reflect.Value)) {
	switch v.Kind() {
	case reflect.Struct:
		for i := range v.NumField() {
			parts(v.Field(i), name+"."+v.Type().Field(i).Name, each)
		}
	case reflect.Array, reflect.Slice:
		for i := range v.Len() {
			parts(v.Index(i), name+"["+strconv.Itoa(i)+"]", each)
		}
	default:
		each(name, v)
	}
}

// turn one bit of a number, or a bool, at a time, back again behind each.
func turn(part reflect.Value, each func(bit int)) {
	switch {
	case part.Kind() == reflect.Bool:
		was := part.Bool()
		part.SetBool(!was)
		each(0)
		part.SetBool(was)
	case part.CanInt():
		was := part.Int()
		for bit := range part.Type().Bits() {
			one := int64(1) << bit
			if bit == part.Type().Bits()-1 {
				one = -one // its sign's
				if part.Type().Bits() == 64 {
					one = math.MinInt64
				}
			}
			part.SetInt(was ^ one)
			each(bit)
		}
		part.SetInt(was)
	default:
		was := part.Uint()
		for bit := range part.Type().Bits() {
			part.SetUint(was ^ uint64(1)<<bit)
			each(bit)
		}
		part.SetUint(was)
	}
}

func TestAsTheDocumentHasIt(t *testing.T) { // P13.1: its examples
	got := words.Cell(api.Cell{Age: -5, Offer: api.Said{Is: true, At: 3, P: api.Payload{Kind: 9, Value: 2}}, View: api.View{Command: 99}})
	if want := (api.Cell{Age: -1, View: api.View{Command: -1}}); got != want {
		t.Errorf("%+v, want %+v", got, want)
	}
	wantWord(t, "one row that is not set, of 2 nodes", words.Norm(2, words.Word{Rows: []words.Row{{Cell: fullCell(), Table: make([]words.Held, 2)}}}), words.Word{Rows: make([]words.Row, 2)})
}

func TestACellsPartsEachAlone(t *testing.T) { // P13.1: put in plain cells; all other parts stay
	all := []form[api.Cell]{}
	for _, base := range bases() {
		all = append(all, put(base, age, ages(times()))...)
		all = append(all, put(base, offer, saids(times(), kinds(), rests()))...)
		all = append(all, put(base, report, saids(times(), kinds(), rests()))...)
		all = append(all, put(base, command, commands())...)
		all = append(all, put(base, mode, modes())...)
	}
	for _, f := range all {
		if got := words.Cell(f.is); got != f.plain {
			t.Fatalf("Cell(%+v) = %+v\nwant %+v", f.is, got, f.plain)
		}
	}
}

func TestACellsPartsTogether(t *testing.T) { // P13.1: each of the edges with each one of all other parts
	all := saids(edgeTimes(), edgeKinds(), rests()[1:2])
	for _, a := range ages(edgeTimes()) {
		for _, o := range all {
			for _, r := range all {
				for _, c := range edgeCommands() {
					for _, m := range edgeModes() {
						is := api.Cell{Age: a.is, Offer: o.is, Report: r.is, View: fullView()}
						is.View.Command, is.View.Mode = c.is, m.is
						want := api.Cell{Age: a.plain, Offer: o.plain, Report: r.plain, View: fullView()}
						want.View.Command, want.View.Mode = c.plain, m.plain
						if got := words.Cell(is); got != want {
							t.Fatalf("Cell(%+v) = %+v\nwant %+v", is, got, want)
						}
					}
				}
			}
		}
	}
}

func TestAViewsOtherPartsStay(t *testing.T) { // P13.1: whatever they are, each bit of each
	for _, f := range []form[api.Cell]{{fullCell(), fullCell()}, {wrongCell(), wrongCellPlain()}, {api.Cell{}, api.Cell{}}} {
		parts(reflect.ValueOf(&f.is.View).Elem(), "View", func(name string, part reflect.Value) {
			if name == "View.Command" || name == "View.Mode" {
				return
			}
			turn(part, func(bit int) {
				got := words.Cell(f.is)
				want := f.plain
				want.View = f.is.View
				want.View.Command, want.View.Mode = f.plain.View.Command, f.plain.View.Mode
				if got != want {
					t.Fatalf("with bit %d of %s turned: %+v\nwant %+v", bit, name, got, want)
				}
			})
		})
	}
}

func TestRows(t *testing.T) { // P13.1: set and not set, with tables of each length, of each number of nodes
	for n := 0; n <= api.MaxNodes; n++ {
		for i, f := range rows(n) {
			wantRow(t, "row "+strconv.Itoa(i)+" of "+strconv.Itoa(n), words.Plain(n, f.is), f.plain)
		}
	}
}

func TestARowsCells(t *testing.T) { // P13.1: each one as the row's own, and at each place of its table, set and not set
	for _, f := range allCells {
		wantRow(t, "its own", words.Plain(1, words.Row{Is: true, Cell: f.is}), words.Row{Is: true, Cell: f.plain, Table: make([]words.Held, 1)})
		wantRow(t, "its own, not set", words.Plain(1, words.Row{Cell: f.is}), words.Row{})
	}
	for _, f := range allEntries {
		for _, n := range []int{1, 4, api.MaxNodes} {
			for at := range n {
				is, want := words.Row{Is: true, Table: make([]words.Held, n)}, words.Row{Is: true, Table: make([]words.Held, n)}
				is.Table[at], want.Table[at] = f.is, f.plain
				wantRow(t, "entry "+strconv.Itoa(at), words.Plain(n, is), want)
			}
		}
	}
}

func TestWords(t *testing.T) { // P13.1: with rows of each kind, as many as may be, of each number of nodes
	for n := 0; n <= api.MaxNodes; n++ {
		for _, many := range lengths(n) {
			for from := range 3 {
				f := word(n, many, 19*from+many+1)
				wantWord(t, strconv.Itoa(many)+" rows, of "+strconv.Itoa(n), words.Norm(n, f.is), f.plain)
			}
		}
	}
}

func TestAWordsRows(t *testing.T) { // P13.1: each one at each place, all others none
	for _, n := range []int{1, 4, 7, api.MaxNodes} {
		for _, f := range rows(n) {
			for at := range n {
				is, want := words.Word{Rows: make([]words.Row, n)}, words.Word{Rows: make([]words.Row, n)}
				is.Rows[at], want.Rows[at] = f.is, f.plain
				wantWord(t, "row "+strconv.Itoa(at)+" of "+strconv.Itoa(n), words.Norm(n, is), want)
				wantWord(t, "the last row "+strconv.Itoa(at)+" of "+strconv.Itoa(n), words.Norm(n, words.Word{Rows: is.Rows[:at+1]}), want)
			}
		}
	}
}

func TestOfNoSuchNumberOfNodes(t *testing.T) { // P13.1, R1: neither a row nor a word, whatever is handed in
	for _, n := range wrongNumbers() {
		for _, from := range []int{0, 4, api.MaxNodes} {
			for _, f := range rows(from) {
				if got := words.Plain(n, f.is); got.Is || got.Cell != (api.Cell{}) || got.Table != nil {
					t.Fatalf("Plain(%d, %+v) = %+v", n, f.is, got)
				}
			}
			for _, many := range lengths(from) {
				if got := words.Norm(n, word(from, many, many+1).is); got.Rows != nil {
					t.Fatalf("Norm(%d, %d rows) = %+v", n, many, got)
				}
			}
		}
	}
}

func TestListsFarTooLong(t *testing.T) { // P13.1, P13.2, R1: what is beyond the nodes is let go, however much it is
	long := words.Row{Is: true, Cell: wrongCell()}
	for i := range 5000 {
		long.Table = append(long.Table, words.Held{Is: true, Cell: api.Cell{Age: int64(i)}})
	}
	w := words.Word{}
	for range 2000 {
		w.Rows = append(w.Rows, long)
	}
	for n := 0; n <= api.MaxNodes; n++ {
		want := words.Row{Is: true, Cell: wrongCellPlain(), Table: long.Table[:n]}
		wantRow(t, "long", words.Plain(n, long), want)
		wantWord(t, "long", words.Norm(n, w), words.Word{Rows: slices.Repeat([]words.Row{want}, n)})
	}
	wantRow(t, "copied", words.Copy(long), long)
	if other := words.Copy(long); !words.Same(long, other) || words.Same(long, words.Row{Is: true, Cell: long.Cell, Table: long.Table[:4999]}) {
		t.Error("a copy is not the same, or a shorter one is")
	}
}

// unlike fails if two rows are the same, however they are asked.
func unlike(t *testing.T, what string, a, b words.Row) {
	t.Helper()
	if words.Same(a, b) || words.Same(b, a) {
		t.Fatalf("%s: the same: %+v, %+v", what, a, b)
	}
}

// same fails if two rows are not, however they are asked.
func same(t *testing.T, what string, a, b words.Row) {
	t.Helper()
	if !words.Same(a, b) || !words.Same(b, a) {
		t.Fatalf("%s: not the same: %+v, %+v", what, a, b)
	}
}

func TestRowsUnlikeInOneBit(t *testing.T) { // P13.2: of whether they are set, of their cell, of any entry
	full := words.Held{Is: true, Cell: fullCell()}
	for _, r := range []words.Row{
		{},
		{Is: true, Cell: fullCell(), Table: []words.Held{full, {}, full}},
		{Cell: wrongCell(), Table: []words.Held{{Cell: wrongCell()}, full}},
		{Is: true, Table: make([]words.Held, api.MaxNodes)},
	} {
		is, seen := cloned(r), 0
		parts(reflect.ValueOf(&is).Elem(), "row", func(name string, part reflect.Value) {
			seen++
			turn(part, func(bit int) {
				unlike(t, "bit "+strconv.Itoa(bit)+" of "+name, is, r)
				same(t, "its copy with bit "+strconv.Itoa(bit)+" of "+name, is, words.Copy(is))
			})
		})
		// A cell has 55 parts, and beside each of them stands whether it is set.
		if seen != 56*(1+len(r.Table)) {
			t.Errorf("%d parts of a row and %d entries", seen, len(r.Table))
		}
		same(t, "turned back", is, r)
	}
}

func TestRowsUnlikeInTheirTables(t *testing.T) { // P13.2: in how long they are, and in what stands where
	full := words.Held{Is: true, Cell: fullCell()}
	for _, is := range []bool{false, true} {
		all := []words.Row{}
		for _, entry := range []words.Held{{}, full} {
			for many := range 20 {
				all = append(all, words.Row{Is: is, Table: slices.Repeat([]words.Held{entry}, many+1)})
			}
		}
		all = append(all, words.Row{Is: is}, words.Row{Is: is, Table: []words.Held{{}, full}}, words.Row{Is: is, Table: []words.Held{full, {}}}, words.Row{Is: is, Table: []words.Held{full, full, {}}})
		for i, a := range all {
			for k, b := range all {
				if i == k {
					same(t, "one row twice", a, b)
				} else {
					unlike(t, strconv.Itoa(i)+" and "+strconv.Itoa(k), a, b)
				}
			}
			set := a
			set.Is = !is
			unlike(t, "set and not set", a, set)
		}
	}
}

func TestATableWithoutAnything(t *testing.T) { // P13.2: is like one that is not there, in whatever row
	for _, c := range allCells {
		for _, is := range []bool{false, true} {
			none := words.Row{Is: is, Cell: c.is}
			for _, empty := range [][]words.Held{{}, make([]words.Held, 0, 5), make([]words.Held, 5)[5:]} {
				r := words.Row{Is: is, Cell: c.is, Table: empty}
				same(t, "without anything, and not there", r, none)
				same(t, "without anything, twice", r, words.Row{Is: is, Cell: c.is, Table: []words.Held{}})
				wantRow(t, "copied", words.Copy(r), none)
			}
			unlike(t, "one entry that is not set, and no table", words.Row{Is: is, Cell: c.is, Table: make([]words.Held, 1)}, none)
		}
	}
}

func TestRoomBehindATableIsNotLookedAt(t *testing.T) { // P13.1, P13.2
	for _, n := range []int{0, 4, api.MaxNodes} {
		for _, f := range rows(n) {
			same(t, "with room behind", cloned(f.is), f.is)
			wantRow(t, "with room behind", words.Plain(n, cloned(f.is)), f.plain)
			wantRow(t, "copied", words.Copy(cloned(f.is)), f.is)
		}
		for _, many := range lengths(n) {
			f := word(n, many, 2)
			wantWord(t, "with room behind", words.Norm(n, clonedWord(f.is)), f.plain)
		}
	}
}

func TestCopies(t *testing.T) { // P13.2: as the row is, plain or not, and there, if its table is
	source := rand.New(rand.NewSource(13))
	all := []words.Row{}
	for n := 0; n <= api.MaxNodes; n++ {
		for _, f := range rows(n) {
			all = append(all, f.is, f.plain)
		}
		all = append(all, anyRow(source))
	}
	for _, r := range all {
		first := words.Copy(r)
		wantRow(t, "copied", first, r)
		wantRow(t, "copied again", words.Copy(first), r)
		same(t, "copied", first, r)
		if (first.Table == nil) != (r.Table == nil) {
			t.Errorf("a copy's table %v of %v", first.Table, r.Table)
		}
	}
}

func TestAPlainFormIsItsOwn(t *testing.T) { // P13.3: of what was by chance, and of each edge; and it is of the same nodes
	source := rand.New(rand.NewSource(14))
	for range 3000 {
		n := source.Intn(api.MaxNodes + 1)
		c, r, w := words.Cell(anyCell(source)), words.Plain(n, anyRow(source)), words.Norm(n, anyWord(source))
		if again := words.Cell(c); again != c {
			t.Fatalf("Cell(%+v) = %+v", c, again)
		}
		wantRow(t, "again", words.Plain(n, r), r)
		wantWord(t, "again", words.Norm(n, w), w)
		if r.Is && len(r.Table) != n || !r.Is && len(r.Table) != 0 || len(w.Rows) != n {
			t.Fatalf("of %d nodes: %+v\n%+v", n, r, w)
		}
		for _, row := range w.Rows {
			wantRow(t, "a word's row", words.Plain(n, row), row)
		}
	}
	for _, n := range wrongNumbers() {
		wantRow(t, "of no such nodes", words.Plain(n, words.Plain(n, words.Row{Is: true})), words.Row{})
	}
}

func TestWhatIsPlainStays(t *testing.T) { // P13.3: whoever made it
	for _, f := range allCells {
		if got := words.Cell(f.plain); got != f.plain {
			t.Fatalf("Cell(%+v) = %+v", f.plain, got)
		}
	}
	for n := 0; n <= api.MaxNodes; n++ {
		for _, f := range rows(n) {
			wantRow(t, "a plain row", words.Plain(n, f.plain), f.plain)
		}
		for _, many := range lengths(n) {
			f := word(n, many, n)
			wantWord(t, "a plain word", words.Norm(n, f.plain), f.plain)
		}
	}
}

func TestSameRowsHaveTheSamePlainForm(t *testing.T) { // P13.3: also where a table is not there in one, and in the other has nothing
	source := rand.New(rand.NewSource(15))
	for n := 0; n <= api.MaxNodes; n++ {
		for _, f := range rows(n) {
			others := []words.Row{cloned(f.is), words.Copy(f.is)}
			if len(f.is.Table) == 0 {
				others = append(others, words.Row{Is: f.is.Is, Cell: f.is.Cell}, words.Row{Is: f.is.Is, Cell: f.is.Cell, Table: []words.Held{}})
			}
			for _, r := range others {
				same(t, "rows", r, f.is)
				same(t, "their plain forms", words.Plain(n, r), words.Plain(n, f.is))
			}
		}
		for range 100 {
			r := anyRow(source)
			same(t, "plain forms of a row and its copy", words.Plain(n, r), words.Plain(n, words.Copy(r)))
		}
	}
}

func TestAWordsRowsAreEachPlain(t *testing.T) { // P13.1, P13.3: as each would be alone
	source := rand.New(rand.NewSource(16))
	for range 2000 {
		n, w := source.Intn(api.MaxNodes+1), anyWord(source)
		for i, r := range words.Norm(n, w).Rows {
			alone := words.Row{}
			if i < len(w.Rows) {
				alone = words.Plain(n, w.Rows[i])
			}
			wantRow(t, "row "+strconv.Itoa(i), r, alone)
		}
	}
}

func TestOfOtherNodes(t *testing.T) { // P13.1, P13.3: a plain form of so many nodes, brought to that of fewer, or of more
	for n := 0; n <= api.MaxNodes; n++ {
		for m := 0; m <= api.MaxNodes; m++ {
			r := words.Plain(n, aged(n))
			want := words.Row{Is: true, Table: make([]words.Held, m)}
			copy(want.Table, r.Table)
			wantRow(t, "of "+strconv.Itoa(n)+", then of "+strconv.Itoa(m), words.Plain(m, r), want)
		}
	}
}

// aged: a row of so many entries, each with its own age.
func aged(n int) words.Row {
	out := words.Row{Is: true}
	for i := range n {
		out.Table = append(out.Table, words.Held{Is: true, Cell: api.Cell{Age: int64(i + 1)}})
	}
	return out
}

func TestWhatIsHandedInStays(t *testing.T) { // R1, of P13.1 and P13.2: and what is in the room behind it
	for _, n := range append(wrongNumbers(), 0, 1, 4, 7, api.MaxNodes) {
		from := max(0, min(n, api.MaxNodes))
		for _, f := range append(rows(from), form[words.Row]{is: aged(3)}) {
			r, told := cloned(f.is), cloned(f.is)
			words.Plain(n, r)
			words.Copy(r)
			words.Same(r, f.is)
			words.Same(f.is, r)
			if !alike(r, told) || !slices.Equal(whole(r.Table), whole(told.Table)) {
				t.Fatalf("a row was changed: %+v, from %+v", r, told)
			}
		}
		for _, many := range lengths(from) {
			is := word(from, many, 1).is
			w, told := clonedWord(is), clonedWord(is)
			words.Norm(n, w)
			for i, r := range whole(w.Rows) {
				was := whole(told.Rows)[i]
				if !alike(r, was) || !slices.Equal(whole(r.Table), whole(was.Table)) {
					t.Fatalf("row %d of a word was changed: %+v, from %+v", i, r, was)
				}
			}
		}
	}
}

func TestRowsAreNewMemory(t *testing.T) { // P13.1, P13.2, R4, R5: what is done to the one changes nothing of the other, each way
	for _, n := range []int{1, 4, api.MaxNodes} {
		for _, f := range rows(n) {
			for what, call := range map[string]func(words.Row) words.Row{
				"Plain": func(r words.Row) words.Row { return words.Plain(n, r) },
				"Copy":  words.Copy,
			} {
				for _, is := range []words.Row{f.is, f.plain} {
					given, told := cloned(is), cloned(is)
					first, second := call(given), call(given)
					want := call(told)
					spoil(first)
					wantRow(t, what+": the other answer", second, want)
					if !slices.Equal(whole(given.Table), whole(told.Table)) {
						t.Fatalf("%s: what was handed in hangs on what was answered", what)
					}
					spoil(given)
					wantRow(t, what+": behind a change of what was handed in", second, want)
				}
			}
		}
	}
}

func TestWordsAreNewMemory(t *testing.T) { // P13.1, R4, R5: what is done to the one changes nothing of the other, each way
	for _, n := range []int{1, 4, api.MaxNodes} {
		for _, many := range lengths(n) {
			f := word(n, many, 3)
			for _, is := range []words.Word{f.is, f.plain} {
				given := clonedWord(is)
				first, second := words.Norm(n, given), words.Norm(n, given)
				spoilWord(first)
				wantWord(t, "the other answer", second, f.plain)
				wantWord(t, "what was handed in, asked again", words.Norm(n, given), f.plain)
				spoilWord(given)
				wantWord(t, "behind a change of what was handed in", second, f.plain)
			}
		}
	}
}

func TestRowsOfOneWordShareNothing(t *testing.T) { // R4: even where those handed in are one, plain or not
	for _, n := range []int{2, 4, api.MaxNodes} {
		for _, r := range []words.Row{aged(n), aged(n + 3), aged(n - 1), {Is: true}} {
			shared := words.Word{Rows: slices.Repeat([]words.Row{r}, n)}
			for at := range n {
				w := words.Norm(n, shared)
				want := words.Norm(n, shared)
				spoil(w.Rows[at])
				for i := range n {
					if i != at {
						wantRow(t, "row "+strconv.Itoa(i)+", behind a change of "+strconv.Itoa(at), w.Rows[i], want.Rows[i])
					}
				}
			}
		}
	}
}

func TestNothingIsKept(t *testing.T) { // R1, R5: a call hangs on nothing of earlier ones, whatever they were
	source := rand.New(rand.NewSource(17))
	calls := []func() words.Word{}
	want := []words.Word{}
	for i := range 200 {
		n, w := source.Intn(20)-2, anyWord(source)
		calls = append(calls, func() words.Word { return words.Norm(n, w) })
		want = append(want, calls[i]())
	}
	for range 2000 {
		i := source.Intn(len(calls))
		wantWord(t, "again", calls[i](), want[i])
	}
}
