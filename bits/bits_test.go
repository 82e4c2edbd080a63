package bits_test

import (
	"math"
	"slices"
	"testing"

	"sennit/api"
	"sennit/bits"
)

// syms reads a text as symbols: 0 and 1 are bits, a dot is SyNone, x is a symbol that there is not.
func syms(text string) []api.Sym {
	out := []api.Sym{}
	for _, r := range text {
		switch r {
		case '0':
			out = append(out, api.SyZero)
		case '1':
			out = append(out, api.SyOne)
		case '.':
			out = append(out, api.SyNone)
		case 'x':
			out = append(out, 255)
		}
	}
	return out
}

// roomy: the same symbols, with room behind them in which a careless append would show.
func roomy(s []api.Sym) []api.Sym {
	out := make([]api.Sym, len(s), len(s)+200)
	copy(out, s)
	rest := out[len(s):cap(out)]
	for i := range rest {
		rest[i] = 77
	}
	return out
}

// untouched tells whether roomy symbols are still these, their room included.
func untouched(s, want []api.Sym) bool {
	for _, x := range s[len(s):cap(s)] {
		if x != 77 {
			return false
		}
	}
	return slices.Equal(s, want)
}

// own fails if an answer has room behind it, or shares memory with what was handed in.
func own[T api.Sym | byte](t *testing.T, what string, in, out []T) {
	t.Helper()
	if cap(out) != len(out) {
		t.Errorf("%s: room behind: len %d, cap %d", what, len(out), cap(out))
	}
	was := slices.Clone(in)
	for i := range out {
		out[i] ^= 255
	}
	if !slices.Equal(in, was) {
		t.Errorf("%s: shares memory with what was handed in", what)
	}
}

// numbers at and beside the edges of every width.
func numbers() []uint64 {
	out := []uint64{0, 1, 5, 0xdeadbeefcafef00d, 0x0123456789abcdef, 0xaaaaaaaaaaaaaaaa, math.MaxUint64}
	for i := range 64 {
		out = append(out, 1<<i, 1<<i-1)
	}
	return out
}

func TestOfTellsEachBytesBitsGreatestFirst(t *testing.T) { // P1.1
	for _, c := range []struct {
		b    []byte
		want string
	}{
		{nil, ""},
		{[]byte{}, ""},
		{[]byte{5}, "00000101"},
		{[]byte{0}, "00000000"},
		{[]byte{255}, "11111111"},
		{[]byte{128, 1}, "10000000 00000001"},
		{[]byte{1, 2, 4}, "00000001 00000010 00000100"},
	} {
		if got := bits.Of(c.b); !slices.Equal(got, syms(c.want)) {
			t.Errorf("Of(%v) = %v, want %s", c.b, got, c.want)
		}
	}
}

func TestBytesOfWholeSymbols(t *testing.T) { // P1.1
	for _, c := range []struct {
		s    string
		want []byte
	}{
		{"", nil},
		{"00000101", []byte{5}},
		{"10000000", []byte{128}},
		{"11111111 00000000", []byte{255, 0}},
		{"00000001 00000010 00000100", []byte{1, 2, 4}},
	} {
		if got, ok := bits.Bytes(syms(c.s)); !ok || !slices.Equal(got, c.want) {
			t.Errorf("Bytes(%s) = %v, %v, want %v", c.s, got, ok, c.want)
		}
	}
	if got, ok := bits.Bytes(nil); !ok || len(got) != 0 {
		t.Errorf("Bytes(nil) = %v, %v", got, ok)
	}
}

func TestBytesOfOthersIsNothing(t *testing.T) { // P1.1
	for _, s := range []string{
		"0", "1", "0000010", "000001011", "00000101 1111111",
		".0000101", "0000010.", "0000x101", "00000101 0000010.", "........", ".", "0.",
	} {
		if got, ok := bits.Bytes(syms(s)); ok || got != nil {
			t.Errorf("Bytes(%s) = %v, %v, want nothing", s, got, ok)
		}
	}
	for x := range 256 {
		s := bits.Of([]byte{5})
		s[3] = api.Sym(x)
		whole := s[3] == api.SyZero || s[3] == api.SyOne
		if got, ok := bits.Bytes(s); ok != whole || len(got) != 0 != whole {
			t.Errorf("with symbol %d: %v, %v", x, got, ok)
		}
	}
}

func TestBytesTakesMoreThan64Symbols(t *testing.T) { // P1.1: the bound of 64 is a number's alone
	b := []byte{9, 8, 7, 6, 5, 4, 3, 2, 1}
	if got, ok := bits.Bytes(bits.Of(b)); !ok || !slices.Equal(got, b) {
		t.Errorf("got %v, %v", got, ok)
	}
}

func TestPutLaysANumberBehind(t *testing.T) { // P1.2
	for _, c := range []struct {
		s    string
		n    uint64
		many int
		want string
	}{
		{"", 5, 4, "0101"},
		{"", 5, 2, "01"},
		{"", 8, 3, "000"},
		{"", 5, 1, "1"},
		{"", 5, 0, ""},
		{"110", 5, 3, "110101"},
		{".x", 2, 2, ".x10"},
		{"110", 5, 0, "110"},
		{"110", 5, -1, "110"},
		{"110", math.MaxUint64, math.MinInt, "110"},
	} {
		if got := bits.Put(syms(c.s), c.n, c.many); !slices.Equal(got, syms(c.want)) {
			t.Errorf("Put(%s, %d, %d) = %v, want %s", c.s, c.n, c.many, got, c.want)
		}
	}
	if got := bits.Put(nil, 5, 4); !slices.Equal(got, syms("0101")) {
		t.Errorf("Put(nil, 5, 4) = %v", got)
	}
}

func TestPutOfMoreThan64BitsIsOf64(t *testing.T) { // P1.2
	for _, n := range numbers() {
		want := bits.Put(syms("1."), n, 64)
		if len(want) != 66 {
			t.Fatalf("Put(.., %d, 64) has %d symbols", n, len(want))
		}
		for _, many := range []int{65, 128, 1000, math.MaxInt} {
			if got := bits.Put(syms("1."), n, many); !slices.Equal(got, want) {
				t.Errorf("Put(.., %d, %d) = %v", n, many, got)
			}
		}
	}
	got := bits.Put(nil, 1<<63|1, 64)
	if got[0] != api.SyOne || got[1] != api.SyZero || got[62] != api.SyZero || got[63] != api.SyOne {
		t.Errorf("Put(nil, 1<<63|1, 64) = %v", got)
	}
}

func TestPutTellsEachBit(t *testing.T) { // P1.2
	for _, n := range numbers() {
		for many := range 65 {
			got := bits.Put(nil, n, many)
			if len(got) != many {
				t.Fatalf("Put(nil, %d, %d) has %d symbols", n, many, len(got))
			}
			for i, x := range got {
				if (x == api.SyOne) != (n>>(many-1-i)&1 == 1) || x != api.SyOne && x != api.SyZero {
					t.Fatalf("Put(nil, %d, %d)[%d] = %d", n, many, i, x)
				}
			}
		}
	}
}

func TestNum(t *testing.T) { // P1.2
	for _, c := range []struct {
		s    string
		want uint64
		ok   bool
	}{
		{"", 0, true},
		{"0", 0, true},
		{"1", 1, true},
		{"110", 6, true},
		{"0001", 1, true},
		{"1000 0000 0000", 2048, true},
		{".", 0, false},
		{"1.", 0, false},
		{".1", 0, false},
		{"1x1", 0, false},
	} {
		if got, ok := bits.Num(syms(c.s)); got != c.want || ok != c.ok {
			t.Errorf("Num(%s) = %d, %v, want %d, %v", c.s, got, ok, c.want, c.ok)
		}
	}
	if got, ok := bits.Num(nil); got != 0 || !ok {
		t.Errorf("Num(nil) = %d, %v", got, ok)
	}
}

func TestNumOfMoreThan64SymbolsIsNone(t *testing.T) { // P1.2
	if got, ok := bits.Num(bits.Put(nil, math.MaxUint64, 64)); got != math.MaxUint64 || !ok {
		t.Errorf("of 64: %d, %v", got, ok)
	}
	for _, s := range [][]api.Sym{
		bits.Put(syms("0"), 1, 64),
		bits.Put(syms("1"), 0, 64),
		bits.Of(make([]byte, 9)),
		bits.Put(syms("."), 1, 64),
	} {
		if got, ok := bits.Num(s); got != 0 || ok {
			t.Errorf("of %d: %d, %v", len(s), got, ok)
		}
	}
}

func TestWhole(t *testing.T) { // P1.3
	for _, s := range []string{"", "0", "1", "0110", "00000000 1"} {
		if !bits.Whole(syms(s)) {
			t.Errorf("Whole(%s) = false", s)
		}
	}
	if !bits.Whole(nil) {
		t.Error("Whole(nil) = false")
	}
	if !bits.Whole(bits.Of(make([]byte, 20))) {
		t.Error("Whole of 160 symbols = false")
	}
	for _, s := range []string{".", "x", ".01", "0.1", "01.", "x01", "01x"} {
		if bits.Whole(syms(s)) {
			t.Errorf("Whole(%s) = true", s)
		}
	}
	for x := range 256 {
		if got := bits.Whole([]api.Sym{api.Sym(x)}); got != (x == 1 || x == 2) {
			t.Errorf("Whole(symbol %d) = %v", x, got)
		}
	}
}

func TestTurn(t *testing.T) { // P1.3
	for _, c := range []struct {
		s    string
		at   []int
		want string
	}{
		{"110", []int{0, 2, 2, 9}, "010"},
		{"110", nil, "110"},
		{"110", []int{}, "110"},
		{"110", []int{0, 1, 2}, "001"},
		{"110", []int{2, 1, 0}, "001"},
		{"110", []int{1, 1}, "110"},
		{"110", []int{1, 0, 1, 1}, "000"},
		{"110", []int{3}, "110"},
		{"110", []int{-1, -3, math.MinInt, math.MaxInt}, "110"},
		{"110", []int{-1, 1, 3}, "100"},
		{"0.x1", []int{0, 1, 2, 3}, "1.x0"},
		{"", nil, ""},
		{"", []int{0, -1, 5}, ""},
	} {
		if got := bits.Turn(syms(c.s), c.at...); !slices.Equal(got, syms(c.want)) {
			t.Errorf("Turn(%s, %v) = %v, want %s", c.s, c.at, got, c.want)
		}
	}
	if got := bits.Turn(nil, 0); len(got) != 0 {
		t.Errorf("Turn(nil, 0) = %v", got)
	}
}

func TestTurnLetsOtherSymbolsBe(t *testing.T) { // P1.3
	for x := range 256 {
		want := api.Sym(x)
		switch want {
		case api.SyZero:
			want = api.SyOne
		case api.SyOne:
			want = api.SyZero
		}
		if got := bits.Turn([]api.Sym{api.Sym(x)}, 0); len(got) != 1 || got[0] != want {
			t.Errorf("Turn(symbol %d, 0) = %v", x, got)
		}
	}
}

func TestWhatIsPutIsGotAsItWas(t *testing.T) { // P1.4
	for long := range 40 {
		b := make([]byte, long)
		for i := range b {
			b[i] = byte(37*i + 91*long)
		}
		if got, ok := bits.Bytes(bits.Of(b)); !ok || !slices.Equal(got, b) {
			t.Errorf("%v came back as %v, %v", b, got, ok)
		}
	}
	for _, n := range numbers() {
		for many := range 65 {
			want := n
			if many < 64 {
				want = n & (1<<many - 1)
			}
			if got, ok := bits.Num(bits.Put(nil, n, many)); !ok || got != want {
				t.Errorf("%d in %d bits came back as %d, %v", n, many, got, ok)
			}
		}
	}
}

func TestWholeSymbolsAreOfOneListAndOneNumber(t *testing.T) { // P1.4
	for many := range 11 {
		for n := range uint64(1) << many {
			s := bits.Put(nil, n, many)
			got, ok := bits.Num(s)
			if !ok || got != n || !slices.Equal(bits.Put(nil, got, many), s) {
				t.Fatalf("%v: %d, %v", s, got, ok)
			}
		}
	}
	for x := range 1 << 16 {
		s := bits.Put(nil, uint64(x), 16)
		b, ok := bits.Bytes(s)
		if !ok || !slices.Equal(b, []byte{byte(x >> 8), byte(x)}) || !slices.Equal(bits.Of(b), s) {
			t.Fatalf("%v: %v, %v", s, b, ok)
		}
	}
}

func TestWhatIsTurnedTwiceIsAsItWas(t *testing.T) { // P1.4
	s := syms("0110.x01")
	for _, at := range [][]int{nil, {0}, {0, 1, 2}, {4, 5}, {3, 3, 3}, {-1, 7, 8}} {
		if got := bits.Turn(bits.Turn(s, at...), at...); !slices.Equal(got, s) {
			t.Errorf("turned twice at %v: %v", at, got)
		}
	}
}

func TestWhatIsHandedInStays(t *testing.T) { // R1, of P1.1 to P1.3
	b := []byte{5, 0, 255}
	bits.Of(b)
	if !slices.Equal(b, []byte{5, 0, 255}) {
		t.Errorf("Of changed its bytes: %v", b)
	}
	for _, text := range []string{"", "00000101", "0.x1", "110"} {
		want := syms(text)
		s := roomy(want)
		bits.Bytes(s)
		bits.Num(s)
		bits.Whole(s)
		bits.Put(s, math.MaxUint64, 64)
		at := []int{2, 0, 9, -1}
		bits.Turn(s, at...)
		if !untouched(s, want) {
			t.Errorf("%s was changed: %v", text, s[:cap(s)])
		}
		if !slices.Equal(at, []int{2, 0, 9, -1}) {
			t.Errorf("the places were changed: %v", at)
		}
	}
}

func TestWhatIsAnsweredIsItsOwn(t *testing.T) { // R4, of P1.1 to P1.3
	for long := range 40 {
		b := make([]byte, long)
		s := bits.Of(b)
		own(t, "Of", nil, s)
		s = roomy(bits.Of(b))
		back, _ := bits.Bytes(s)
		own(t, "Bytes", b, back)
		for _, many := range []int{-1, 0, 1, 7, 64, 65} {
			own(t, "Put", s, bits.Put(s, 5, many))
		}
		own(t, "Turn", s, bits.Turn(s))
		own(t, "Turn", s, bits.Turn(s, 0, 1, 3))
	}
	own(t, "Put of nothing", nil, bits.Put(nil, 5, 3))
}

func TestEachAnswerIsNew(t *testing.T) { // R4: no two answers share memory
	s := syms("00000101")
	for name, call := range map[string]func() []api.Sym{
		"Of":          func() []api.Sym { return bits.Of([]byte{5}) },
		"Put":         func() []api.Sym { return bits.Put(s, 5, 3) },
		"Put nothing": func() []api.Sym { return bits.Put(s, 5, 0) },
		"Turn":        func() []api.Sym { return bits.Turn(s, 1) },
	} {
		first, second := call(), call()
		want := slices.Clone(second)
		for i := range first {
			first[i] = 99
		}
		if !slices.Equal(second, want) {
			t.Errorf("%s: two answers share memory", name)
		}
	}
}
