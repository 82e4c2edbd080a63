package frames_test

import (
	"bytes"
	"encoding/binary"
	"fmt"
	"math"
	"math/rand"
	"slices"
	"testing"

	"sennit/api"
	"sennit/bits"
	"sennit/frames"
	"sennit/sums"
)

func frame(owner int, kind api.Kind, station uint8, seq, value uint32) frames.Frame {
	return frames.Frame{Owner: owner, Payload: api.Payload{Kind: kind, Station: station, Seq: seq, Value: value}}
}

// shown: the frame of the document's example.
func shown() frames.Frame { return frame(1, api.PyCommand, 2, 3, 4) }

// samples: frames of each owner and each kind that may be, with stations and numbers at their edges and between.
func samples() []frames.Frame {
	out := []frames.Frame{shown()}
	numbers := []uint32{0, 1, 255, 256, 0x01020304, 1 << 31, math.MaxUint32}
	for owner := range api.MaxPairs {
		for _, kind := range []api.Kind{api.PyData, api.PyCommand} {
			for i, n := range numbers {
				out = append(out, frame(owner, kind, 0, n, 0), frame(owner, kind, 255, 0, n), frame(owner, kind, byte(37*i), n, ^n))
			}
		}
	}
	return out
}

// refused: frames whose owner, or kind, or both, may not be; of each some that would be another one's byte, cut off.
func refused() []frames.Frame {
	out := []frames.Frame{{}}
	for _, owner := range []int{-1, -2, -8, -16, -256, math.MinInt, api.MaxPairs, 9, 15, 16, 17, 255, 256, 257, math.MaxInt - 255, math.MaxInt} {
		for _, kind := range []api.Kind{0, api.PyData, api.PyCommand, 3, 255} {
			out = append(out, frame(owner, kind, 2, 3, 4))
		}
	}
	for kind := range 256 {
		if kind != int(api.PyData) && kind != int(api.PyCommand) {
			out = append(out, frame(0, api.Kind(kind), 2, 3, 4), frame(api.MaxPairs-1, api.Kind(kind), 2, 3, 4))
		}
	}
	return out
}

// tails: all four, and the symbols of each as a text.
func tails() map[frames.Tail]string {
	return map[frames.Tail]string{
		{}:                          "00",
		{Unlike: true}:              "01",
		{Whole: true}:               "10",
		{Whole: true, Unlike: true}: "11",
	}
}

// laid: a frame's bytes as the document words them.
func laid(f frames.Frame) []byte {
	b := []byte{byte(16*int(f.Payload.Kind) + f.Owner), f.Payload.Station}
	b = binary.BigEndian.AppendUint32(b, f.Payload.Seq)
	b = binary.BigEndian.AppendUint32(b, f.Payload.Value)
	return sums.Put(b)
}

// syms reads a text of noughts and ones as symbols.
func syms(text string) []api.Sym {
	out := []api.Sym{}
	for _, r := range text {
		out = append(out, api.SyZero+api.Sym(r-'0'))
	}
	return out
}

// sent: the symbols of bytes, and of a tail that is told as a text.
func sent(b []byte, tail string) []api.Sym {
	text := ""
	for _, x := range b {
		text += fmt.Sprintf("%08b", x)
	}
	return syms(text + tail)
}

// turned: symbols with those turned that a pattern of 32 has, its greatest bit at that place.
func turned(s []api.Sym, at int, pattern uint32) []api.Sym {
	out := slices.Clone(s)
	for k := range 32 {
		if pattern>>(31-k)&1 == 1 {
			out[at+k] = api.SyZero + api.SyOne - out[at+k]
		}
	}
	return out
}

// patterns of 32 bits, none of them 0: single ones, ends, runs, the sum's divisor, and many others.
func patterns() []uint32 {
	out := []uint32{3, 0x80000001, math.MaxUint32, 0xaaaaaaaa, 0x04c11db7, 0x82608edb, 0xedb88320, 0xdeadbeef}
	for k := range 32 {
		out = append(out, 1<<k, 1<<k|1, math.MaxUint32>>k)
	}
	source := rand.New(rand.NewSource(5))
	for range 100 {
		out = append(out, source.Uint32()|1)
	}
	return out
}

// getFails fails if bytes are got as a frame, or another error is told, or anything beside it.
func getFails(t *testing.T, what string, b []byte, want api.Errno) {
	t.Helper()
	if f, e := frames.Get(b); e != want || f != (frames.Frame{}) {
		t.Errorf("%s: Get(%v) = %+v, %d, want nothing and %d", what, b, f, e, want)
	}
}

// readFails fails if symbols are read as a frame, or another error or tail is told.
func readFails(t *testing.T, what string, s []api.Sym, tail frames.Tail, want api.Errno) {
	t.Helper()
	if f, got, e := frames.Read(s); e != want || got != tail || f != (frames.Frame{}) {
		t.Errorf("%s: Read(%v) = %+v, %+v, %d, want nothing, %+v and %d", what, s, f, got, e, tail, want)
	}
}

func TestPutLaysBytes(t *testing.T) { // P5.1
	for _, c := range []struct {
		f    frames.Frame
		want []byte
	}{
		{shown(), []byte{33, 2, 0, 0, 0, 3, 0, 0, 0, 4, 152, 80, 177, 0}},
		{frame(0, api.PyData, 0, 0, 0), []byte{16, 0, 0, 0, 0, 0, 0, 0, 0, 0, 65, 20, 186, 15}},
		{frame(7, api.PyCommand, 255, math.MaxUint32, math.MaxUint32), []byte{39, 255, 255, 255, 255, 255, 255, 255, 255, 255, 194, 147, 85, 11}},
	} {
		if got, e := frames.Put(c.f); e != api.OK || !bytes.Equal(got, c.want) {
			t.Errorf("Put(%+v) = %v, %d, want %v", c.f, got, e, c.want)
		}
		if got, e := frames.Get(c.want); e != api.OK || got != c.f {
			t.Errorf("Get(%v) = %+v, %d, want %+v", c.want, got, e, c.f)
		}
	}
	for _, f := range samples() {
		got, e := frames.Put(f)
		if e != api.OK || len(got) != api.FrameBytes || !bytes.Equal(got, laid(f)) {
			t.Errorf("Put(%+v) = %v, %d, want %v", f, got, e, laid(f))
		}
	}
}

func TestPutTellsEachByteInItsPlace(t *testing.T) { // P5.1
	got, e := frames.Put(frame(5, api.PyData, 0xa1, 0xb2c3d4e5, 0xf6071829))
	want := []byte{16 + 5, 0xa1, 0xb2, 0xc3, 0xd4, 0xe5, 0xf6, 0x07, 0x18, 0x29}
	if e != api.OK || !bytes.Equal(got, sums.Put(want)) {
		t.Errorf("%v, %d, want %v, summed", got, e, want)
	}
}

func TestPutRefuses(t *testing.T) { // P5.1, P5.2: owners and kinds that may not be
	for _, f := range refused() {
		if b, e := frames.Put(f); e != api.ErrArg || b != nil {
			t.Errorf("Put(%+v) = %v, %d", f, b, e)
		}
		for tail := range tails() {
			if s, e := frames.Syms(f, tail); e != api.ErrArg || s != nil {
				t.Errorf("Syms(%+v, %+v) = %v, %d", f, tail, s, e)
			}
		}
	}
}

func TestPutTakesEachOwnerAndKindThatMayBe(t *testing.T) { // P5.1
	for owner := -20; owner < 300; owner++ {
		for kind := range 256 {
			may := owner >= 0 && owner < 8 && (kind == 1 || kind == 2)
			if b, e := frames.Put(frame(owner, api.Kind(kind), 0, 0, 0)); (e == api.OK) != may || (b != nil) != may {
				t.Errorf("owner %d, kind %d: %v, %d", owner, kind, b, e)
			}
		}
	}
}

func TestGetOfTooFewOrTooManyBytes(t *testing.T) { // P5.1
	getFails(t, "nil", nil, api.ErrForm)
	whole := laid(shown())
	for long := range 40 {
		if long == api.FrameBytes {
			continue
		}
		getFails(t, "noughts", make([]byte, long), api.ErrForm)
		getFails(t, "cut, or more behind", append(slices.Clone(whole), make([]byte, 40)...)[:long], api.ErrForm)
		if long >= 4 { // summed well, but not so many
			getFails(t, "summed", sums.Put(append([]byte{33}, make([]byte, 40)...)[:long-4]), api.ErrForm)
		}
	}
	getFails(t, "room that would make it whole", whole[:api.FrameBytes-1], api.ErrForm)
	getFails(t, "one ahead", append([]byte{0}, whole...), api.ErrForm)
}

func TestGetOfBytesThatAreNotSummed(t *testing.T) { // P5.1
	getFails(t, "noughts", make([]byte, api.FrameBytes), api.ErrSum)
	getFails(t, "all ones", bytes.Repeat([]byte{255}, api.FrameBytes), api.ErrSum)
	whole := laid(shown())
	for i := range whole {
		for x := range 256 {
			b := slices.Clone(whole)
			if b[i] = byte(x); b[i] != whole[i] {
				getFails(t, "a changed byte", b, api.ErrSum) // of the first byte too: the sum counts ahead of owner and kind
			}
		}
	}
	swapped := slices.Clone(whole)
	slices.Reverse(swapped[10:])
	getFails(t, "the sum, the least byte first", swapped, api.ErrSum)
}

func TestGetOfEachFirstByte(t *testing.T) { // P5.1, P5.2: summed bytes whose owner, or kind, may not be
	for x := range 256 {
		b := sums.Put([]byte{byte(x), 2, 0, 0, 0, 3, 0, 0, 0, 4})
		owner, kind := x%16, x/16
		may := owner < 8 && (kind == 1 || kind == 2)
		if !may {
			getFails(t, "owner or kind", b, api.ErrForm)
		} else if f, e := frames.Get(b); e != api.OK || f != frame(owner, api.Kind(kind), 2, 3, 4) {
			t.Errorf("Get(%v) = %+v, %d", b, f, e)
		}
		for tail, text := range tails() {
			if !may {
				readFails(t, "owner or kind", sent(b, text), tail, api.ErrForm)
			} else if f, got, e := frames.Read(sent(b, text)); e != api.OK || got != tail || f != frame(owner, api.Kind(kind), 2, 3, 4) {
				t.Errorf("Read of %v, %s = %+v, %+v, %d", b, text, f, got, e)
			}
		}
	}
}

func TestSymsOfFrames(t *testing.T) { // P5.2
	for _, f := range samples() {
		for tail, text := range tails() {
			want := sent(laid(f), text)
			got, e := frames.Syms(f, tail)
			if e != api.OK || len(got) != api.FrameLong || !slices.Equal(got, want) {
				t.Errorf("Syms(%+v, %+v) = %v, %d, want %v", f, tail, got, e, want)
			}
			if back, was, e := frames.Read(want); e != api.OK || back != f || was != tail {
				t.Errorf("Read(%v) = %+v, %+v, %d, want %+v, %+v", want, back, was, e, f, tail)
			}
		}
	}
}

func TestReadOfTooFewOrTooManySymbols(t *testing.T) { // P5.2
	readFails(t, "nil", nil, frames.Tail{}, api.ErrForm)
	for _, text := range tails() {
		whole := sent(laid(shown()), text)
		more := append(slices.Clone(whole), whole...)
		for long := range more {
			if long != api.FrameLong {
				readFails(t, "cut, or more behind", more[:long], frames.Tail{}, api.ErrForm)
			}
		}
		readFails(t, "one ahead", append(syms("1"), whole...), frames.Tail{}, api.ErrForm)
	}
}

func TestReadOfSymbolsThatAreNotWhole(t *testing.T) { // P5.2: in the bytes, and in the tail
	for tail, text := range tails() {
		good := sent(laid(shown()), text)
		unsummed := bits.Turn(good, 5)
		noFrame := sent(sums.Put(make([]byte, 10)), text)
		for at := range good {
			for _, x := range []api.Sym{api.SyNone, 3, 4, 128, 255} {
				for _, s := range [][]api.Sym{good, unsummed, noFrame} {
					broken := slices.Clone(s)
					broken[at] = x
					readFails(t, "not whole", broken, frames.Tail{}, api.ErrForm)
				}
			}
		}
		readFails(t, "as it was, not summed", unsummed, tail, api.ErrSum)
		readFails(t, "as it was, no frame", noFrame, tail, api.ErrForm)
	}
	readFails(t, "none at all", make([]api.Sym, api.FrameLong), frames.Tail{}, api.ErrForm)
}

func TestReadOfBytesThatAreNotSummed(t *testing.T) { // P5.2: the tail is told all the same
	for tail, text := range tails() {
		readFails(t, "noughts", sent(make([]byte, api.FrameBytes), text), tail, api.ErrSum)
		readFails(t, "all ones", sent(bytes.Repeat([]byte{255}, api.FrameBytes), text), tail, api.ErrSum)
		whole := sent(laid(shown()), text)
		for at := range api.FrameBits {
			readFails(t, "one turned", bits.Turn(whole, at), tail, api.ErrSum)
		}
	}
}

func TestReadOfATurnedTail(t *testing.T) { // P5.2: no sum counts it in
	whole := sent(laid(shown()), "10")
	for at, want := range map[int]frames.Tail{api.FrameBits: {}, api.FrameBits + 1: {Whole: true, Unlike: true}} {
		if f, tail, e := frames.Read(bits.Turn(whole, at)); e != api.OK || f != shown() || tail != want {
			t.Errorf("turned at %d: %+v, %+v, %d", at, f, tail, e)
		}
	}
}

func TestTails(t *testing.T) { // P5.3
	for tail, text := range tails() {
		if got := tail.Syms(); !slices.Equal(got, syms(text)) {
			t.Errorf("%+v: symbols %v, want %s", tail, got, text)
		}
		if got := tail.Good(); got != (text == "10") {
			t.Errorf("%+v: Good = %v", tail, got)
		}
	}
	if got := (frames.Tail{Whole: true}).Syms(); !slices.Equal(got, []api.Sym{api.SyOne, api.SyZero}) {
		t.Errorf("whole, nothing unlike: %v", got)
	}
}

func TestWhatIsPutIsGot(t *testing.T) { // P5.4
	source := rand.New(rand.NewSource(7))
	list := samples()
	for range 2000 {
		list = append(list, frame(source.Intn(8), api.Kind(1+source.Intn(2)), byte(source.Uint32()), source.Uint32(), source.Uint32()))
	}
	seen := map[string]frames.Frame{}
	for _, f := range list {
		b, e := frames.Put(f)
		if got, e2 := frames.Get(b); e != api.OK || e2 != api.OK || got != f {
			t.Errorf("%+v came back as %+v, %d, %d", f, got, e, e2)
		}
		if other, ok := seen[string(b)]; ok && other != f {
			t.Errorf("%+v and %+v have the same bytes", f, other)
		}
		seen[string(b)] = f
	}
}

func TestWhatIsGotIsPutAgain(t *testing.T) { // P5.4: of summed bytes with any first byte
	source := rand.New(rand.NewSource(11))
	gotten := 0
	for i := range 20 * 256 {
		told := make([]byte, 10)
		source.Read(told)
		told[0] = byte(i)
		b := sums.Put(told)
		f, e := frames.Get(b)
		if e != api.OK {
			continue
		}
		gotten++
		if again, e := frames.Put(f); e != api.OK || !bytes.Equal(again, b) {
			t.Errorf("%v was got as %+v, and that is put as %v, %d", b, f, again, e)
		}
	}
	if gotten != 20*16 {
		t.Errorf("%d lists of bytes were got, want %d", gotten, 20*16)
	}
}

func TestNothingIsReadOfSymbolsTurnedWithin32(t *testing.T) { // P5.4
	for _, f := range []frames.Frame{shown(), frame(0, api.PyData, 0, 0, 0), frame(7, api.PyCommand, 255, math.MaxUint32, math.MaxUint32)} {
		for tail, text := range tails() {
			whole := sent(laid(f), text)
			for _, p := range patterns() {
				for at := range api.FrameBits - 31 {
					readFails(t, "turned", turned(whole, at, p), tail, api.ErrSum)
				}
			}
		}
	}
}

func TestAPayloadIsAFramesOwn(t *testing.T) { // its parts are the frame's, by embedding
	f, _ := frames.Get(laid(shown()))
	if f.Kind != api.PyCommand || f.Station != 2 || f.Seq != 3 || f.Value != 4 || f.Payload != shown().Payload {
		t.Errorf("%+v", f)
	}
}

// roomy: the same list, with room behind in which a careless append would show.
func roomy[T api.Sym | byte](list []T) []T {
	out := make([]T, len(list), len(list)+200)
	copy(out, list)
	rest := out[len(list):cap(out)]
	for i := range rest {
		rest[i] = 77
	}
	return out
}

// untouched tells whether a roomy list is still this one, its room included.
func untouched[T api.Sym | byte](list, want []T) bool {
	for _, x := range list[len(list):cap(list)] {
		if x != 77 {
			return false
		}
	}
	return slices.Equal(list, want)
}

// spoil a list, its room included.
func spoil[T api.Sym | byte](list []T) {
	list = list[:cap(list)]
	for i := range list {
		list[i] ^= 255
	}
}

func TestWhatIsHandedInStays(t *testing.T) { // R1, of P5.1 and P5.2
	for _, want := range [][]byte{nil, laid(shown()), laid(shown())[:13], append(laid(shown()), 9), make([]byte, 14), sums.Put(make([]byte, 10))} {
		b := roomy(want)
		frames.Get(b)
		if !untouched(b, want) {
			t.Errorf("Get changed %v to %v", want, b[:cap(b)])
		}
		for _, text := range tails() {
			told := sent(want, text)
			for _, cut := range []int{0, 1} {
				told := told[:len(told)-cut]
				s := roomy(told)
				frames.Read(s)
				if !untouched(s, told) {
					t.Errorf("Read changed %v to %v", told, s[:cap(s)])
				}
			}
		}
	}
	broken := sent(laid(shown()), "10")
	broken[50], broken[113] = api.SyNone, 9
	s := roomy(broken)
	frames.Read(s)
	if !untouched(s, broken) {
		t.Errorf("Read changed %v to %v", broken, s[:cap(s)])
	}
}

func TestNothingHangsOnWhatWasHandedIn(t *testing.T) { // R1: what was got stays, whatever becomes of the list
	b := laid(shown())
	f, e := frames.Get(b)
	spoil(b)
	if f != shown() || e != api.OK {
		t.Errorf("Get: %+v, %d", f, e)
	}
	s := sent(laid(shown()), "10")
	f, tail, e := frames.Read(s)
	spoil(s)
	if f != shown() || e != api.OK || tail != (frames.Tail{Whole: true}) {
		t.Errorf("Read: %+v, %+v, %d", f, tail, e)
	}
}

func TestWhatIsAnsweredIsItsOwn(t *testing.T) { // R4: no room behind, and no two answers share memory
	for _, f := range samples() {
		put := func() []byte { b, _ := frames.Put(f); return b }
		isOwn(t, "Put", put)
		for tail := range tails() {
			isOwn(t, "Syms", func() []api.Sym { s, _ := frames.Syms(f, tail); return s })
			isOwn(t, "Syms of a tail", tail.Syms)
		}
	}
}

// isOwn fails if an answer has room behind, or if what is done to one shows in another, an earlier or a later one.
func isOwn[T api.Sym | byte](t *testing.T, what string, call func() []T) {
	t.Helper()
	earlier, first := call(), call()
	want := slices.Clone(earlier)
	if len(first) == 0 || cap(first) != len(first) {
		t.Errorf("%s: len %d, cap %d", what, len(first), cap(first))
	}
	spoil(first)
	if !slices.Equal(earlier, want) || !slices.Equal(call(), want) {
		t.Errorf("%s: two answers share memory", what)
	}
}

func TestAFrameOutlivesItsBytesAndSymbols(t *testing.T) { // R4: across the calls
	s, _ := frames.Syms(shown(), frames.Tail{Whole: true})
	b, _ := frames.Put(shown())
	spoil(b)
	if f, tail, e := frames.Read(s); e != api.OK || f != shown() || tail != (frames.Tail{Whole: true}) {
		t.Errorf("after the bytes were spoiled: %+v, %+v, %d", f, tail, e)
	}
	spoil(s)
	if f, e := frames.Get(laid(shown())); e != api.OK || f != shown() {
		t.Errorf("after the symbols were spoiled: %+v, %d", f, e)
	}
}

func TestNothingIsKept(t *testing.T) { // R1: a call hangs on nothing of earlier ones, refused ones among them
	want := sent(laid(shown()), "10")
	for _, f := range append(samples(), refused()...) {
		frames.Put(f)
		frames.Syms(f, frames.Tail{Unlike: true})
		frames.Get(make([]byte, 14))
		frames.Read(want[1:])
		got, e := frames.Syms(shown(), frames.Tail{Whole: true})
		if e != api.OK || !slices.Equal(got, want) {
			t.Fatalf("after calls of %+v: %v, %d", f, got, e)
		}
	}
}
