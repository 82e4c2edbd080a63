// Package bits is layer 1: bytes and numbers as symbols, and back. See doc/01-bits.md.
package bits

import "sennit/api"

const (
	byteBits = 8
	mostBits = 64
)

// Of bytes: their symbols. (P1.1)
func Of(b []byte) []api.Sym {
	out := make([]api.Sym, byteBits*len(b))
	for i := range out {
		out[i] = symbol(uint64(b[i/byteBits]) >> (byteBits - 1 - i%byteBits))
	}
	return out
}

// Bytes of symbols. (P1.1)
func Bytes(s []api.Sym) ([]byte, bool) {
	if len(s)%byteBits != 0 || !Whole(s) {
		return nil, false
	}
	out := make([]byte, len(s)/byteBits)
	for i, x := range s {
		out[i/byteBits] = out[i/byteBits]<<1 | byte(x-api.SyZero)
	}
	return out, true
}

// Put a number's symbols behind others. (P1.2)
func Put(s []api.Sym, n uint64, bits int) []api.Sym {
	bits = min(max(bits, 0), mostBits)
	// Made at its full length at once: appending could leave room behind, or write into the caller's.
	out := make([]api.Sym, len(s)+bits)
	copy(out, s)
next:
	if bits > 0 {
		out[len(out)-bits] = symbol(n >> (bits - 1))
		bits--
		goto next
	}
	return out
}

// Num of symbols. (P1.2)
func Num(s []api.Sym) (uint64, bool) {
	if len(s) > mostBits || !Whole(s) {
		return 0, false
	}
	n := uint64(0)
	for _, x := range s {
		n = n<<1 | uint64(x-api.SyZero)
	}
	return n, true
}

// Whole: are they? (P1.3)
func Whole(s []api.Sym) bool {
	for _, x := range s {
		if x != api.SyZero && x != api.SyOne {
			return false
		}
	}
	return true
}

// Turn some. (P1.3)
func Turn(s []api.Sym, at ...int) []api.Sym {
	out := make([]api.Sym, len(s))
	copy(out, s)
	for _, p := range at {
		if p >= 0 && p < len(out) {
			out[p] = turned(out[p])
		}
	}
	return out
}

// symbol of a number's lowest bit.
func symbol(n uint64) api.Sym {
	if n&1 == 1 {
		return api.SyOne
	}
	return api.SyZero
}

func turned(x api.Sym) api.Sym {
	switch x {
	case api.SyZero:
		return api.SyOne
	case api.SyOne:
		return api.SyZero
	}
	return x
}
