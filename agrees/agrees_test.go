package agrees_test

import (
	"math"
	"math/rand"
	"reflect"
	"slices"
	"strconv"
	"testing"

	"sennit/agrees"
	"sennit/api"
	"sennit/words"
)

// cellOf a number: plain, with something in all its parts, and unlike those of other numbers.
func cellOf(k int) api.Cell {
	said := func(kind api.Kind, x int) api.Said {
		return api.Said{Is: true, At: int64(x), P: api.Payload{Kind: kind, Station: uint8(x), Seq: uint32(x), Value: uint32(3 * x)}}
	}
	c := api.Cell{Age: int64(k), Offer: said(api.PyData, k%90+1), Report: said(api.PyCommand, k%70+2)}
	for i := range api.MaxPairs {
		c.View.In[i], c.View.Got[i] = (k+i)%3 > 0, (k+i)%2 > 0
		c.View.Miss[i], c.View.Good[i], c.View.Score[i] = uint8(k+i), uint8(k+2*i), uint16(k+7*i)
	}
	c.View.Command, c.View.Mode = int8(k%api.MaxPairs), uint8(k%8)
	return c
}

// has: an entry that is set.
func has(c api.Cell) words.Held { return words.Held{Is: true, Cell: c} }

// unasked: a row's table of so many entries, of which each is set, and unlike those of all other numbers and places.
func unasked(many, k int) []words.Held {
	out := make([]words.Held, many)
	for i := range out {
		out[i] = has(cellOf(10000 + 100*k + i))
	}
	return out
}

// Forms of rows that have a cell of a source, and of rows that have nothing of it.
const (
	tellingForms = 6
	silentForms  = 10
)

// telling: a row that has a cell of a source, in one of the forms; of other nodes it has nothing that rows of other numbers have.
func telling(n, source, k int, c api.Cell, how int) words.Row {
	form := func(many int) []words.Held {
		table := unasked(many, k)
		table[source] = has(c)
		return table
	}
	switch how % tellingForms {
	case 0:
		return words.Row{Is: true, Cell: cellOf(k), Table: form(n)}
	case 1:
		return words.Row{Is: true, Cell: c, Table: just(n, source, c)}
	case 2:
		return words.Row{Is: true, Table: form(source + 1)}
	case 3:
		return words.Row{Is: true, Cell: cellOf(1), Table: form(n + 1)}
	case 4:
		return words.Row{Is: true, Cell: cellOf(k), Table: form(40)}
	}
	return words.Row{Is: true, Cell: cellOf(k), Table: form(n)[: source+1 : source+1]}
}

// silent: a row that has nothing of a source, in one of the forms, though the cell stands where one might look for it.
func silent(n, source, k int, c api.Cell, how int) words.Row {
	form := func(many int, h words.Held) []words.Held {
		table := unasked(many, k)
		table[source] = h
		return table
	}
	switch how % silentForms {
	case 0:
		return words.Row{}
	case 1:
		return words.Row{Is: true}
	case 2:
		return words.Row{Is: true, Cell: c}
	case 3:
		return words.Row{Is: true, Cell: c, Table: []words.Held{}}
	case 4:
		return words.Row{Is: true, Cell: c, Table: unasked(n, k)[:source:source]}
	case 5: // the cell in the room behind
		return words.Row{Is: true, Cell: c, Table: form(n, has(c))[:source]}
	case 6: // a row that is not set
		return words.Row{Cell: c, Table: form(n, has(c))}
	case 7: // an entry that is not set
		return words.Row{Is: true, Cell: c, Table: form(n, words.Held{Cell: c})}
	case 8:
		return words.Row{Is: true, Cell: c, Table: form(n, words.Held{})}
	}
	return words.Row{Is: true, Cell: c, Table: append(form(n, words.Held{}), has(c), has(c))}
}

// just: a vector of which one entry alone is set.
func just(n, source int, c api.Cell) []words.Held {
	out := make([]words.Held, n)
	out[source] = has(c)
	return out
}

// wantHeld fails if there is something else, or if there is room behind it.
func wantHeld(t *testing.T, what string, got, want []words.Held) {
	t.Helper()
	if len(got) != len(want) || cap(got) != len(got) {
		t.Fatalf("%s: %d entries, with room for %d, want %d", what, len(got), cap(got), len(want))
	}
	for i := range got {
		if got[i] != want[i] {
			t.Fatalf("%s: of %d it is %+v\nwant %+v", what, i, got[i], want[i])
		}
	}
}

// eachSource of each ring.
func eachSource(each func(n, source int)) {
	for n := api.MinNodes; n <= api.MaxNodes; n++ {
		for source := range n {
			each(n, source)
		}
	}
}

// what is looked at, for a test that fails.
func what(names string, numbers ...int) string {
	for _, x := range numbers {
		names += " " + strconv.Itoa(x)
	}
	return names
}

// agreed of a source, as the document words it, each cell that is told held against each.
func agreed(n, source int, held []words.Row) words.Held {
	told := []api.Cell{}
	for node, r := range held {
		if node < n && node != source && r.Is && len(r.Table) > source && r.Table[source].Is {
			told = append(told, r.Table[source].Cell)
		}
	}
	for _, a := range told {
		many := 0
		for _, b := range told {
			if a == b {
				many++
			}
		}
		if many > (n-1)/2 {
			return has(a)
		}
	}
	return words.Held{}
}

func TestTable(t *testing.T) { // P15.1: of each row whether it is set, and its cell, whatever its own table has, and whatever the cell
	odd := api.Cell{Age: -7, Offer: api.Said{At: 3, P: api.Payload{Kind: 9}}, View: api.View{Command: 99, Mode: 200}}
	rows := []words.Row{
		{Is: true, Cell: cellOf(1), Table: unasked(4, 1)},
		{},
		{Is: true},
		{Is: true, Cell: cellOf(2)},
		{Cell: cellOf(3), Table: unasked(4, 3)},
		{Is: true, Cell: cellOf(1), Table: unasked(40, 5)},
		{Is: true, Cell: odd, Table: []words.Held{}},
		{Cell: odd},
	}
	want := []words.Held{has(cellOf(1)), {}, has(api.Cell{}), has(cellOf(2)), {Cell: cellOf(3)}, has(cellOf(1)), has(odd), {Cell: odd}}
	wantHeld(t, "all", agrees.Table(rows), want)
	for from := range rows {
		for to := from; to <= len(rows); to++ {
			wantHeld(t, what("rows", from, to), agrees.Table(rows[from:to]), want[from:to])
		}
	}
}

func TestTablesOfEachLength(t *testing.T) { // P15.1: as many entries as there are rows, none and more than there may be nodes included
	wantHeld(t, "nil", agrees.Table(nil), []words.Held{})
	wantHeld(t, "none", agrees.Table([]words.Row{}), []words.Held{})
	for many := range 50 {
		rows, want := make([]words.Row, many), make([]words.Held, many)
		for i := range rows {
			rows[i] = words.Row{Is: (i+many)%3 > 0, Cell: cellOf(i), Table: unasked(i, i)}
			want[i] = words.Held{Is: (i+many)%3 > 0, Cell: cellOf(i)}
		}
		wantHeld(t, what("rows", many), agrees.Table(rows), want)
	}
}

func TestTableOfRowsNotSet(t *testing.T) { // P15.1: not set, and the cell all the same: with something in one part alone, in all, or in none; beside rows that are set, and alone
	cells := append(others(api.Cell{}), others(cellOf(5))...)
	cells = append(cells, api.Cell{}, cellOf(5), api.Cell{View: api.View{Command: -1}})
	rows, want := []words.Row{}, []words.Held{}
	for i, c := range cells {
		for _, table := range [][]words.Held{nil, {}, {{}}, {has(c)}, {{Cell: c}}, unasked(4, i)} {
			row := words.Row{Cell: c, Table: table}
			wantHeld(t, what("alone", i), agrees.Table([]words.Row{row}), []words.Held{{Cell: c}})
			rows, want = append(rows, row), append(want, words.Held{Cell: c})
		}
		rows, want = append(rows, words.Row{Is: true, Cell: c}), append(want, has(c))
	}
	wantHeld(t, "all", agrees.Table(rows), want)
}

func TestTablesOfRowsNotSetSayNothing(t *testing.T) { // P15.1, P15.2: what is told of a row that is not set is agreed of nobody, however many tell it
	for n := api.MinNodes; n <= api.MaxNodes; n++ {
		for unset := range n {
			rows, want := make([]words.Row, n), make([]words.Held, n)
			for i := range rows {
				rows[i] = words.Row{Is: i != unset, Cell: cellOf(i)}
				if i != unset {
					want[i] = has(cellOf(i))
				}
			}
			held := slices.Repeat([]words.Row{{Is: true, Table: agrees.Table(rows)}}, n)
			wantHeld(t, what("nodes, unset", n, unset), agrees.Agree(n, held), want)
		}
	}
}

func TestAsTheDocumentHasIt(t *testing.T) { // P15.2: its examples; of node 0, its own row anything
	c, a, b := has(cellOf(1)), has(cellOf(2)), has(cellOf(3))
	for i, x := range []struct {
		tables [3]words.Held // of nodes 1 to 3
		want   words.Held
	}{
		{[3]words.Held{c, c, c}, c},
		{[3]words.Held{c, c, a}, c}, {[3]words.Held{c, a, c}, c}, {[3]words.Held{a, c, c}, c},
		{[3]words.Held{c, a, b}, words.Held{}},
		{[3]words.Held{c, c, {}}, c},
		{[3]words.Held{c, {}, {}}, words.Held{}},
		{[3]words.Held{c, a, {}}, words.Held{}},
		{[3]words.Held{}, words.Held{}},
	} {
		for _, own := range []words.Held{{}, c, a, b, has(cellOf(4))} {
			held := []words.Row{{Is: true, Table: []words.Held{own}}}
			for _, h := range x.tables {
				held = append(held, words.Row{Is: true, Table: []words.Held{h}})
			}
			wantHeld(t, what("example", i), agrees.Agree(4, held), []words.Held{x.want, {}, {}, {}})
		}
	}
}

func TestRingsThatAreNone(t *testing.T) { // P15.2: no vector, whatever is held; numbers that would wrap round to some that may be, too
	for _, n := range []int{math.MinInt, math.MinInt + 4, math.MinInt32, -1 << 32, -1<<32 + 4, -256 + 4, -17, -16, -4, -1, 0, 1, 2,
		api.MinNodes - 1, api.MaxNodes + 1, 18, 32, 255, 260, 1<<16 + 4, 1 << 32, 1<<32 + 4, 1<<62 + 4, math.MaxInt32, math.MaxInt - 1, math.MaxInt} {
		for many := range 20 {
			held := make([]words.Row, many)
			for i := range held {
				held[i] = words.Row{Is: true, Table: slices.Repeat([]words.Held{has(cellOf(1))}, 20)}
			}
			if got := agrees.Agree(n, held); len(got) != 0 || cap(got) != 0 {
				t.Fatalf("Agree(%d, %d rows) = %v", n, many, got)
			}
		}
		if got := agrees.Agree(n, nil); len(got) != 0 || cap(got) != 0 {
			t.Fatalf("Agree(%d, nil) = %v", n, got)
		}
	}
}

func TestNothingIsHeld(t *testing.T) { // P15.2: a vector of N nodes, nothing of each
	for n := api.MinNodes; n <= api.MaxNodes; n++ {
		for _, held := range [][]words.Row{nil, {}, {{}}, make([]words.Row, n-1), make([]words.Row, n), make([]words.Row, n+1), make([]words.Row, 40),
			slices.Repeat([]words.Row{{Is: true}}, n), slices.Repeat([]words.Row{{Is: true, Cell: cellOf(1), Table: make([]words.Held, n)}}, n)} {
			wantHeld(t, what("nodes", n), agrees.Agree(n, held), make([]words.Held, n))
		}
	}
}

// voices: rows of which so many, from one of the others on, have a cell of a source, and the rest of the others something else.
func voices(n, source, many, from int, one func(k int) words.Row, rest func(k int) words.Row, own words.Row) []words.Row {
	held := make([]words.Row, n)
	held[source] = own
	for k := range n - 1 {
		node := (source + 1 + (from+k)%(n-1)) % n
		if k < many {
			held[node] = one(node)
		} else {
			held[node] = rest(node)
		}
	}
	return held
}

// owns: what the source's own row may have of itself.
func owns(n, source int, cells ...api.Cell) []words.Row {
	out := []words.Row{{}}
	for i, c := range cells {
		out = append(out, telling(n, source, 50+i, c, n+i))
	}
	return out
}

func TestHowManyOthersHaveIt(t *testing.T) { // P15.2: none to all of N - 1; the rest have nothing; what the source's own row has does not count
	c := cellOf(1)
	eachSource(func(n, source int) {
		for many := range n {
			want := make([]words.Held, n)
			if 2*many > n-1 {
				want = just(n, source, c)
			}
			for i, own := range owns(n, source, c, cellOf(2)) {
				from := source + many + i
				one := func(k int) words.Row { return telling(n, source, k, c, k+many) }
				rest := func(k int) words.Row { return silent(n, source, k, c, k+from) }
				got := agrees.Agree(n, voices(n, source, many, from, one, rest, own))
				wantHeld(t, what("nodes, source, many, own", n, source, many, i), got, want)
			}
		}
	})
}

func TestTwoCells(t *testing.T) { // P15.2: each is had by some of the others, by half of them each too: the one that more than half have, or nothing
	a, b := cellOf(1), cellOf(2)
	halves := 0
	eachSource(func(n, source int) {
		for many := range n {
			want := make([]words.Held, n)
			switch {
			case 2*many > n-1:
				want = just(n, source, a)
			case 2*many < n-1:
				want = just(n, source, b)
			default:
				halves++
			}
			for i, own := range owns(n, source, a, b, cellOf(3)) {
				for from := 0; from < n-1; from += 1 + n/6 {
					one := func(k int) words.Row { return telling(n, source, k, a, k+i) }
					rest := func(k int) words.Row { return telling(n, source, k, b, k+many) }
					got := agrees.Agree(n, voices(n, source, many, from, one, rest, own))
					wantHeld(t, what("nodes, source, many, own, from", n, source, many, i, from), got, want)
				}
			}
		}
	})
	if halves != 5+7+9+11+13+15 {
		t.Errorf("half and half %d times", halves)
	}
}

func TestAllTheRestUnlike(t *testing.T) { // P15.2: as if they had nothing, also where the cell is most of all, but not of more than half
	c := cellOf(1)
	eachSource(func(n, source int) {
		for many := range n {
			want := make([]words.Held, n)
			if 2*many > n-1 {
				want = just(n, source, c)
			}
			one := func(k int) words.Row { return telling(n, source, k, c, k) }
			rest := func(k int) words.Row { return telling(n, source, k, cellOf(20+k), k) }
			got := agrees.Agree(n, voices(n, source, many, many+source, one, rest, one(source)))
			wantHeld(t, what("nodes, source, many", n, source, many), got, want)
		}
	})
}

// fewest others that are more than half of N - 1.
func fewest(n int) int { return (n-1)/2 + 1 }

func TestFormsOfRows(t *testing.T) { // P15.2: as many as must be have the cell, one of them in each form; or one of them has nothing, in each form
	c := cellOf(1)
	eachSource(func(n, source int) {
		one := func(k int) words.Row { return telling(n, source, k, c, 0) }
		rest := func(int) words.Row { return words.Row{} }
		for from := range n - 1 {
			node := (source + 1 + from) % n
			for i := range tellingForms {
				held := voices(n, source, fewest(n), from, one, rest, words.Row{})
				held[node] = telling(n, source, node, c, i)
				wantHeld(t, what("telling, nodes, source, node", i, n, source, node), agrees.Agree(n, held), just(n, source, c))
			}
			for i := range silentForms {
				held := voices(n, source, fewest(n), from, one, rest, one(source))
				held[node] = silent(n, source, node, c, i)
				wantHeld(t, what("silent, nodes, source, node", i, n, source, node), agrees.Agree(n, held), make([]words.Held, n))
			}
		}
	})
}

// parts of a thing, down to its numbers and its bools.
func parts(v reflect.Value) []reflect.Value {
	out := []reflect.Value{}
	switch v.Kind() {
	case reflect.Struct:
		for i := range v.NumField() {
			out = append(out, parts(v.Field(i))...)
		}
	case reflect.Array:
		for i := range v.Len() {
			out = append(out, parts(v.Index(i))...)
		}
	default:
		out = append(out, v)
	}
	return out
}

// others: cells that are unlike this one, each in one bit of one part, or in one bool.
func others(c api.Cell) []api.Cell {
	out := []api.Cell{}
	for _, part := range parts(reflect.ValueOf(&c).Elem()) {
		bits := 1
		if part.Kind() != reflect.Bool {
			bits = part.Type().Bits()
		}
		was := reflect.New(part.Type()).Elem()
		was.Set(part)
		for bit := range bits {
			switch {
			case part.Kind() == reflect.Bool:
				part.SetBool(!was.Bool())
			case part.CanInt():
				part.SetInt(was.Int() ^ int64(1)<<bit)
			default:
				part.SetUint(was.Uint() ^ uint64(1)<<bit)
			}
			out = append(out, c)
			part.Set(was)
		}
	}
	return out
}

func TestCellsUnlikeInOnePart(t *testing.T) { // P15.2: whichever it is, they are two cells: the age, what was said, each count of the view, the mode
	all := others(cellOf(5))
	if want := 64 + 2*(1+64+8+8+32+32) + 8*(1+8+8+16+1) + 8 + 8; len(all) != want {
		t.Fatalf("%d cells, want %d", len(all), want)
	}
	for n := api.MinNodes; n <= api.MaxNodes; n++ {
		for i, other := range all {
			source := (i + n) % n
			c := cellOf(5)
			row := func(c api.Cell) func(int) words.Row {
				return func(int) words.Row { return words.Row{Is: true, Table: just(n, source, c)} }
			}
			// One too few has the one, or the other.
			held := voices(n, source, fewest(n)-1, i, row(c), func(int) words.Row { return words.Row{} }, words.Row{})
			held[(source+1+(i+n-2)%(n-1))%n] = row(other)(0)
			wantHeld(t, what("one too few, nodes, way", n, i), agrees.Agree(n, held), make([]words.Held, n))
			// As many as must be have it, all the rest the other one.
			wantHeld(t, what("the one, nodes, way", n, i), agrees.Agree(n, voices(n, source, fewest(n), i, row(c), row(other), row(other)(0))), just(n, source, c))
			wantHeld(t, what("the other, nodes, way", n, i), agrees.Agree(n, voices(n, source, fewest(n), i, row(other), row(c), row(c)(0))), just(n, source, other))
		}
	}
}

func TestCellsWithNothingInThem(t *testing.T) { // P15.2: one is agreed like any other, and is not nothing
	eachSource(func(n, source int) {
		one := func(k int) words.Row { return telling(n, source, k, api.Cell{}, k) }
		rest := func(int) words.Row { return words.Row{Is: true, Table: make([]words.Held, n)} }
		for many := range n {
			want := make([]words.Held, n)
			if 2*many > n-1 {
				want = just(n, source, api.Cell{})
			}
			wantHeld(t, what("nodes, source, many", n, source, many), agrees.Agree(n, voices(n, source, many, many, one, rest, one(source))), want)
		}
	})
}

func TestSoManyRows(t *testing.T) { // P15.2: fewer than there are nodes, as many, more: what is missing has nothing, what is beyond does not count
	for n := api.MinNodes; n <= api.MaxNodes; n++ {
		all := make([]words.Row, 3*n)
		for i := range all {
			all[i] = words.Row{Is: true, Table: make([]words.Held, n+5)}
			for source := range all[i].Table {
				all[i].Table[source] = has(cellOf(source))
			}
		}
		for many := range all {
			want := make([]words.Held, n)
			for source := range n {
				voices := min(many, n)
				if source < voices {
					voices-- // its own row
				}
				if 2*voices > n-1 {
					want[source] = has(cellOf(source))
				}
			}
			wantHeld(t, what("nodes, rows", n, many), agrees.Agree(n, all[:many]), want)
			wantHeld(t, what("nodes, rows, no room behind", n, many), agrees.Agree(n, all[:many:many]), want)
		}
	}
}

func TestRowsBeyondTheNodes(t *testing.T) { // P15.2: one too few within, and all beyond; or enough within, and all beyond have another one
	eachSource(func(n, source int) {
		c, d := cellOf(1), cellOf(2)
		row := func(c api.Cell) func(int) words.Row {
			return func(k int) words.Row { return telling(n, source, k, c, k) }
		}
		rest := func(int) words.Row { return words.Row{} }
		few, enough := voices(n, source, fewest(n)-1, 0, row(c), rest, words.Row{}), voices(n, source, fewest(n), 0, row(c), rest, words.Row{})
		for k := range 2 * n {
			few, enough = append(few, row(c)(n+k)), append(enough, row(d)(n+k))
		}
		wantHeld(t, what("few, nodes, source", n, source), agrees.Agree(n, few), make([]words.Held, n))
		wantHeld(t, what("enough, nodes, source", n, source), agrees.Agree(n, enough), just(n, source, c))
	})
}

func TestAllSourcesTogether(t *testing.T) { // P15.2: of each another cell, had by another number of the others: as each would be alone
	for n := api.MinNodes; n <= api.MaxNodes; n++ {
		for shift := range 3 * n {
			held := make([]words.Row, n)
			for node := range held {
				held[node] = words.Row{Is: true, Cell: cellOf(node), Table: make([]words.Held, n)}
			}
			want := make([]words.Held, n)
			for source := range n {
				many, c, other := (source+shift)%n, cellOf(30+source), cellOf(60+source%2)
				for k := range n - 1 {
					entry := has(other)
					if k < many {
						entry = has(c)
					}
					held[(source+1+(k+shift)%(n-1))%n].Table[source] = entry
				}
				held[source].Table[source] = has([]api.Cell{c, other}[shift%2])
				switch {
				case 2*many > n-1:
					want[source] = has(c)
				case 2*many < n-1:
					want[source] = has(other)
				}
			}
			wantHeld(t, what("nodes, shift", n, shift), agrees.Agree(n, held), want)
		}
	}
}

// anyRow, set or not, whose table has any number of entries, set or not, of a few cells, one of them most of all.
func anyRow(r *rand.Rand, few []api.Cell) words.Row {
	row := words.Row{Is: r.Intn(8) > 0, Cell: few[r.Intn(len(few))]}
	many := 20
	if r.Intn(4) == 0 {
		many = r.Intn(20)
	}
	for range many {
		c := few[0]
		if r.Intn(3) == 0 {
			c = few[r.Intn(len(few))]
		}
		row.Table = append(row.Table, words.Held{Is: r.Intn(6) > 0, Cell: c})
	}
	return row
}

// anyRows, mostly as many as there are nodes.
func anyRows(r *rand.Rand, n int) []words.Row {
	few := []api.Cell{cellOf(1), cellOf(2), {}, {Age: -1, View: api.View{Command: -1}}, {Age: math.MinInt64, View: api.View{Mode: 255}}}
	r.Shuffle(len(few), func(i, k int) { few[i], few[k] = few[k], few[i] })
	many := n
	if r.Intn(3) == 0 {
		many = r.Intn(2 * n)
	}
	rows := []words.Row{}
	for range many {
		rows = append(rows, anyRow(r, few))
	}
	return rows
}

func TestWhateverIsHeld(t *testing.T) { // P15.1, P15.2: as the document words it, again and again, call by call
	r := rand.New(rand.NewSource(15))
	set, unset := 0, 0
	for i := range 20000 {
		n := api.MinNodes + i%(api.MaxNodes-api.MinNodes+1)
		held := anyRows(r, n)
		vector, table := make([]words.Held, n), make([]words.Held, len(held))
		for source := range n {
			vector[source] = agreed(n, source, held)
			if vector[source].Is {
				set++
			} else {
				unset++
			}
		}
		for node, row := range held {
			table[node].Is, table[node].Cell = row.Is, row.Cell
		}
		wantHeld(t, what("vector", i), agrees.Agree(n, held), vector)
		wantHeld(t, what("table", i), agrees.Table(held), table)
	}
	if set < 30000 || unset < 30000 {
		t.Errorf("%d set, %d not set", set, unset)
	}
}

func TestListsFarTooLong(t *testing.T) { // R1: what is beyond the nodes is let go, however much it is
	row := words.Row{Is: true, Cell: cellOf(2), Table: slices.Repeat([]words.Held{has(cellOf(1))}, 20000)}
	held := slices.Repeat([]words.Row{row}, 20000)
	for _, n := range []int{4, 5, api.MaxNodes} {
		wantHeld(t, what("nodes", n), agrees.Agree(n, held), slices.Repeat([]words.Held{has(cellOf(1))}, n))
	}
	wantHeld(t, "table", agrees.Table(held), slices.Repeat([]words.Held{has(cellOf(2))}, 20000))
}

// whole: a list with what is in the room behind it.
func whole[T any](list []T) []T { return list[:cap(list)] }

// roomy: the same rows in new memory, with more rows, and more entries, in the rooms behind.
func roomy(rows []words.Row) []words.Row {
	out := []words.Row{}
	for _, row := range append(slices.Clone(rows), slices.Repeat([]words.Row{{Is: true, Cell: cellOf(8)}}, 20)...) {
		if row.Table != nil {
			row.Table = append(slices.Clone(row.Table), slices.Repeat([]words.Held{has(cellOf(9))}, 20)...)[:len(row.Table)]
		}
		out = append(out, row)
	}
	return out[:len(rows)]
}

// alike: are rows, in all that they have, the rooms behind their tables included?
func alike(a, b words.Row) bool {
	return a.Is == b.Is && a.Cell == b.Cell && slices.Equal(whole(a.Table), whole(b.Table)) && len(a.Table) == len(b.Table)
}

// spoil all that is in rows, their tables, and the rooms behind.
func spoil(rows []words.Row) {
	for i, row := range whole(rows) {
		for k := range whole(row.Table) {
			whole(row.Table)[k] = has(cellOf(999))
		}
		whole(rows)[i] = words.Row{Is: true, Cell: cellOf(998), Table: []words.Held{has(cellOf(997))}}
	}
}

func TestMemoryOfItsOwn(t *testing.T) { // R1, R4: what is handed in stays, with what is behind it; what was answered stays, too, whatever becomes of that, or of other answers
	r := rand.New(rand.NewSource(16))
	for i := range 2000 {
		n := api.MinNodes + i%(api.MaxNodes-api.MinNodes+1)
		rows := anyRows(r, n)
		held, was := roomy(rows), roomy(rows)
		vector, table := agrees.Agree(n, held), agrees.Table(held)
		again, tableAgain := agrees.Agree(n, held), agrees.Table(held)
		want, wantTable := slices.Clone(vector), slices.Clone(table)
		if !slices.EqualFunc(whole(held), whole(was), alike) {
			t.Fatalf("of %d nodes: what was handed in was changed: %v, from %v", n, held, was)
		}
		for _, answer := range [][]words.Held{vector, table} {
			for k := range whole(answer) {
				whole(answer)[k] = has(cellOf(996))
			}
		}
		if !slices.EqualFunc(whole(held), whole(was), alike) {
			t.Fatalf("of %d nodes: what was handed in is shared: %v, from %v", n, held, was)
		}
		wantHeld(t, "table, behind a change of another one", agrees.Table(held), wantTable)
		wantHeld(t, "vector, behind a change of another one", agrees.Agree(n, held), want)
		spoil(held)
		wantHeld(t, "vector, behind a change of the rows", again, want)
		wantHeld(t, "table, behind a change of the rows", tableAgain, wantTable)
	}
}
