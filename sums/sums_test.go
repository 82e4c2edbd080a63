package sums_test

import (
	"bytes"
	"hash/crc32"
	"math/bits"
	"slices"
	"testing"

	"sennit/sums"
)

// sample: bytes of which no two neighbours are alike, other ones for each seed.
func sample(long, seed int) []byte {
	out := make([]byte, long)
	for i := range out {
		out[i] = byte(37*i + 91*seed + i*i/3)
	}
	return out
}

// divided works a sum out as the document words it: a list of bits, and a long division.
func divided(b []byte) uint32 {
	var list []byte
	for _, x := range b {
		for k := 7; k >= 0; k-- {
			list = append(list, x>>k&1)
		}
	}
	list = append(list, make([]byte, 32)...)
	for i := range 32 {
		list[i] ^= 1
	}
	for i := range len(list) - 32 {
		if list[i] == 0 {
			continue
		}
		for _, power := range []int{32, 26, 23, 22, 16, 12, 11, 10, 8, 7, 5, 4, 2, 1, 0} {
			list[i+32-power] ^= 1
		}
	}
	left := uint32(0)
	for _, x := range list[len(list)-32:] {
		left = left<<1 | uint32(x^1)
	}
	return left
}

// mirrored works a sum out by the library's CRC-32, which has the same divisor and the least bit first.
func mirrored(b []byte) uint32 {
	turned := make([]byte, len(b))
	for i, x := range b {
		turned[i] = bits.Reverse8(x)
	}
	return bits.Reverse32(crc32.ChecksumIEEE(turned))
}

// told: a sum's four bytes.
func told(s uint32) []byte {
	return []byte{byte(s >> 24), byte(s >> 16), byte(s >> 8), byte(s)}
}

// refused fails if these bytes are taken as summed ones, or if anything is answered beside that.
func refused(t *testing.T, what string, b []byte) {
	t.Helper()
	if got, ok := sums.Check(b); ok || got != nil {
		t.Errorf("%s: Check(%x) = %x, %v, want nothing", what, b, got, ok)
	}
}

// roomy: the same bytes, with room behind them in which a careless append would show.
func roomy(b []byte) []byte {
	out := make([]byte, len(b), len(b)+64)
	copy(out, b)
	for i := range out[len(b):cap(out)] {
		out[len(b):cap(out)][i] = 77
	}
	return out
}

// untouched tells whether roomy bytes are still these, their room included.
func untouched(b, want []byte) bool {
	for _, x := range b[len(b):cap(b)] {
		if x != 77 {
			return false
		}
	}
	return bytes.Equal(b, want)
}

func TestOfKnownBytes(t *testing.T) { // P2.1
	for _, c := range []struct {
		b    string
		want uint32
	}{
		{"123456789", 4236843288},
		{"123456789", 0xfc891918},
		{"", 0},
		{"\x00", 0xb1f7404b},
		{"\xff", 0x000000ff},
		{"\xff\xff\xff\xff", 0xffffffff},
	} {
		if got := sums.Of([]byte(c.b)); got != c.want {
			t.Errorf("Of(%x) = %08x, want %08x", c.b, got, c.want)
		}
	}
}

func TestOfIsTheDivisionsRest(t *testing.T) { // P2.1
	var lists [][]byte
	for x := range 256 {
		lists = append(lists, []byte{byte(x)}, []byte{0, byte(x)}, []byte{byte(x), 0, 0, 0, 0})
	}
	for long := range 70 {
		lists = append(lists, make([]byte, long), bytes.Repeat([]byte{255}, long), sample(long, long))
	}
	lists = append(lists, sample(5000, 3))
	for _, b := range lists {
		got := sums.Of(b)
		if want := divided(b); got != want {
			t.Errorf("Of(%x) = %08x, by long division %08x", b, got, want)
		}
		if want := mirrored(b); got != want {
			t.Errorf("Of(%x) = %08x, by the library %08x", b, got, want)
		}
	}
}

func TestOfNothingIsNought(t *testing.T) { // P2.1: no part at all, and empty ones
	for what, got := range map[string]uint32{
		"no part":        sums.Of(),
		"no list":        sums.Of([][]byte(nil)...),
		"an empty list":  sums.Of([][]byte{}...),
		"a nil part":     sums.Of(nil),
		"an empty part":  sums.Of([]byte{}),
		"nil parts":      sums.Of(nil, nil, nil),
		"empty and nil":  sums.Of([]byte{}, nil, []byte{}),
		"an emptied one": sums.Of(roomy(nil)),
	} {
		if got != 0 {
			t.Errorf("%s: %08x", what, got)
		}
	}
}

func TestOfTellsNoughtsAndOrder(t *testing.T) { // P2.1
	seen := map[uint32]int{}
	for long := range 200 {
		s := sums.Of(make([]byte, long))
		if was, ok := seen[s]; ok {
			t.Errorf("%d and %d noughts have one sum", was, long)
		}
		seen[s] = long
	}
	if sums.Of([]byte{1, 2}) == sums.Of([]byte{2, 1}) {
		t.Error("the order of bytes makes no difference")
	}
	if sums.Of([]byte{1}, []byte{2}) == sums.Of([]byte{2}, []byte{1}) {
		t.Error("the order of parts makes no difference")
	}
}

func TestPutLaysTheSumBehind(t *testing.T) { // P2.2
	for _, c := range []struct {
		parts []string
		want  string
	}{
		{[]string{"123456789"}, "123456789\xfc\x89\x19\x18"},
		{[]string{"12345", "6789"}, "123456789\xfc\x89\x19\x18"},
		{[]string{"", "1", "", "2345678", "9", ""}, "123456789\xfc\x89\x19\x18"},
		{[]string{"\x00"}, "\x00\xb1\xf7\x40\x4b"},
		{[]string{""}, "\x00\x00\x00\x00"},
		{[]string{"", ""}, "\x00\x00\x00\x00"},
		{nil, "\x00\x00\x00\x00"},
	} {
		var parts [][]byte
		for _, p := range c.parts {
			parts = append(parts, []byte(p))
		}
		if got := sums.Put(parts...); string(got) != c.want {
			t.Errorf("Put(%q) = %x, want %x", c.parts, got, c.want)
		}
	}
	for what, got := range map[string][]byte{"no part": sums.Put(), "nil": sums.Put(nil), "nils": sums.Put(nil, nil)} {
		if string(got) != "\x00\x00\x00\x00" {
			t.Errorf("Put of %s = %x", what, got)
		}
	}
	for long := range 70 {
		b := sample(long, 5)
		if got := sums.Put(b); !bytes.Equal(got, append(slices.Clone(b), told(divided(b))...)) {
			t.Errorf("Put(%x) = %x", b, got)
		}
	}
}

func TestCheckTakesSummedBytes(t *testing.T) { // P2.2
	for _, c := range []struct{ b, want string }{
		{"123456789\xfc\x89\x19\x18", "123456789"},
		{"\x00\xb1\xf7\x40\x4b", "\x00"},
		{"\xff\xff\xff\xff\xff\xff\xff\xff", "\xff\xff\xff\xff"},
		{"\x00\x00\x00\x00", ""},
	} {
		if got, ok := sums.Check([]byte(c.b)); !ok || string(got) != c.want {
			t.Errorf("Check(%x) = %x, %v, want %x", c.b, got, ok, c.want)
		}
	}
	if got, ok := sums.Check(sums.Put([]byte{7})); !ok || !bytes.Equal(got, []byte{7}) {
		t.Errorf("Check(Put(7)) = %x, %v", got, ok)
	}
}

func TestCheckOfOthersIsNothing(t *testing.T) { // P2.2
	refused(t, "nil", nil)
	for _, s := range []string{
		"", "\x00", "\x00\x00", "\x00\x00\x00", "\x01\x02\x03", "\xff\xff\xff",
		"\x00\x00\x00\x01", "\xff\xff\xff\xff", "\x00\x00\x00\x00\x00",
		"\x18\x19\x89\xfc", "123456789\x18\x19\x89\xfc", "123456789\x03\x76\xe6\xe7",
		"123456789", "123456789\xfc\x89\x19", "23456789\xfc\x89\x19\x18", "\xfc\x89\x19\x18123456789",
		"123456789\xfc\x89\x19\x18\x00", "\x00123456789\xfc\x89\x19\x18",
	} {
		refused(t, "no summed bytes", []byte(s))
	}
	for long := range 4 {
		for x := range 256 {
			refused(t, "fewer than four", bytes.Repeat([]byte{byte(x)}, long))
		}
	}
}

func TestCheckReadsNoRoomBehind(t *testing.T) { // P2.2: what is behind the list is none of it
	whole := sums.Put([]byte("123456789"))
	for cut := range whole {
		refused(t, "cut short", whole[:cut])
	}
	if got, ok := sums.Check(roomy(whole)); !ok || string(got) != "123456789" {
		t.Errorf("with room behind: %x, %v", got, ok)
	}
}

func TestCheckRefusesEachChangedByte(t *testing.T) { // P2.2, P2.3: in the bytes, and in the sum
	for _, long := range []int{0, 1, 2, 9, 14} {
		b := sums.Put(sample(long, 2))
		for i := range b {
			was := b[i]
			for x := range 256 {
				if b[i] = byte(x); b[i] != was {
					refused(t, "changed byte", b)
				}
			}
			b[i] = was
		}
		if _, ok := sums.Check(b); !ok {
			t.Errorf("%x, as it was, is refused", b)
		}
	}
}

func TestWhatIsSummedIsGot(t *testing.T) { // P2.3
	for long := range 100 {
		for seed := range 5 {
			b := sample(long, seed)
			if got, ok := sums.Check(sums.Put(b)); !ok || !bytes.Equal(got, b) {
				t.Errorf("%x came back as %x, %v", b, got, ok)
			}
		}
	}
	twice := sums.Put(sums.Put([]byte{1, 2}))
	once, ok := sums.Check(twice)
	if !ok || !bytes.Equal(once, sums.Put([]byte{1, 2})) {
		t.Errorf("summed twice: %x, %v", once, ok)
	}
}

func TestBitsTurnedWithin32AreTold(t *testing.T) { // P2.3
	patterns := []uint32{1, 3, 0x80000001, 0xffffffff, 0xaaaaaaaa, 0x04c11db7, 0x82608edb, 0xedb88320, 0xdeadbeef}
	for k := range 32 {
		patterns = append(patterns, 1<<k, 1<<k|1, 1<<k-1)
	}
	for i := range uint32(100) {
		patterns = append(patterns, (i+1)*2654435761)
	}
	for _, long := range []int{0, 1, 5, 14} {
		summed := sums.Put(sample(long, 4))
		for _, p := range patterns {
			for at := range 8*len(summed) - 31 {
				turned := slices.Clone(summed)
				for k := range 32 {
					turned[(at+k)/8] ^= byte(p>>(31-k)&1) << (7 - (at+k)%8)
				}
				if p != 0 {
					refused(t, "turned bits", turned)
				}
			}
		}
	}
}

func TestPartingMakesNoDifference(t *testing.T) { // P2.3
	b := sample(14, 6)
	want, summed := sums.Of(b), sums.Put(b)
	for parting := range 1 << (len(b) - 1) {
		var parts [][]byte
		begin := 0
		for i := range b {
			if i == len(b)-1 || parting>>i&1 == 1 {
				parts = append(parts, b[begin:i+1])
				begin = i + 1
			}
		}
		if got := sums.Of(parts...); got != want {
			t.Fatalf("Of(%x) = %08x, want %08x", parts, got, want)
		}
		if got := sums.Put(parts...); !bytes.Equal(got, summed) {
			t.Fatalf("Put(%x) = %x, want %x", parts, got, summed)
		}
	}
	for at := range len(b) + 1 {
		if got := sums.Of(nil, b[:at], []byte{}, nil, b[at:], nil); got != want {
			t.Errorf("with empty parts about %d: %08x", at, got)
		}
		if got := sums.Put(nil, b[:at], []byte{}, nil, b[at:], nil); !bytes.Equal(got, summed) {
			t.Errorf("with empty parts about %d: %x", at, got)
		}
	}
}

func TestSumsOfTwoListsAddUp(t *testing.T) { // P2.3
	for long := range 60 {
		for seed := range 8 {
			a, b := sample(long, seed), sample(long, 3*seed+1)
			both := make([]byte, long)
			for i := range both {
				both[i] = a[i] ^ b[i]
			}
			want := sums.Of(a) ^ sums.Of(b) ^ sums.Of(make([]byte, long))
			if got := sums.Of(both); got != want {
				t.Errorf("%x and %x: %08x, want %08x", a, b, got, want)
			}
		}
	}
}

func TestWhatIsHandedInStays(t *testing.T) { // R1, of P2.1 and P2.2
	for _, text := range []string{"", "1", "12345", "123456789\xfc\x89\x19\x18", "\x00\x00\x00\x00"} {
		want := []byte(text)
		b, c := roomy(want), roomy(want)
		parts := [][]byte{b, nil, c, b}
		sums.Of(parts...)
		sums.Put(parts...)
		sums.Put(b)
		sums.Check(b)
		if !untouched(b, want) || !untouched(c, want) {
			t.Errorf("%x was changed: %x, %x", text, b[:cap(b)], c[:cap(c)])
		}
		if len(parts) != 4 || parts[1] != nil || !bytes.Equal(parts[0], want) || !bytes.Equal(parts[2], want) || !bytes.Equal(parts[3], want) {
			t.Errorf("the list of parts was changed: %x", parts)
		}
	}
}

func TestNothingIsKept(t *testing.T) { // R1: a call hangs on nothing of earlier ones
	want := sums.Of([]byte("123456789"))
	for long := range 20 {
		sums.Of(sample(long, 1))
		sums.Check(sample(long, 1))
		if got := sums.Of([]byte("123456789")); got != want {
			t.Errorf("after another call: %08x", got)
		}
	}
}

// own fails if an answer has room behind it, or shares memory with what was handed in.
func own(t *testing.T, what string, in, out []byte) {
	t.Helper()
	if cap(out) != len(out) {
		t.Errorf("%s: room behind: len %d, cap %d", what, len(out), cap(out))
	}
	was := slices.Clone(in[:cap(in)])
	for i := range out {
		out[i] ^= 255
	}
	if !bytes.Equal(in[:cap(in)], was) {
		t.Errorf("%s: shares memory with what was handed in", what)
	}
}

func TestWhatIsAnsweredIsItsOwn(t *testing.T) { // R4, of P2.2
	for long := range 70 {
		b := roomy(sample(long, 7))
		own(t, "Put", b, sums.Put(b))
		own(t, "Put of parts", b, sums.Put(b[:long/2], nil, b[long/2:]))
		summed := roomy(sums.Put(b))
		got, _ := sums.Check(summed)
		own(t, "Check", summed, got)
	}
	own(t, "Put of nothing", nil, sums.Put())
}

func TestEachAnswerIsNew(t *testing.T) { // R4: no two answers share memory
	summed := sums.Put([]byte("12345"))
	for name, call := range map[string]func() []byte{
		"Put":            func() []byte { return sums.Put([]byte("12345")) },
		"Put of nothing": func() []byte { return sums.Put() },
		"Check":          func() []byte { b, _ := sums.Check(summed); return b },
	} {
		first, second := call(), call()
		want := slices.Clone(second)
		for i := range first {
			first[i] ^= 255
		}
		if !bytes.Equal(second, want) {
			t.Errorf("%s: two answers share memory", name)
		}
	}
}
