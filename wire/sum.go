package wire

import "turnpike/api"

// A sum is a polynomial over the numbers 0 and 1 modulo one of degree 32: bit 31 - k of it stands for x^k, so that to halve it is to take it times x.
const (
	modulus = 0x82F63B78 // x^32
	one     = 1 << 31    // x^0
	byByte  = one >> 8   // x^8: what one byte more takes a sum times
)

// ofHalf is what the lowest four bits of a sum become while it is halved four times.
var ofHalf = [16]uint32{
	0x00000000, 0x105ec76f, 0x20bd8ede, 0x30e349b1, 0x417b1dbc, 0x5125dad3, 0x61c69362, 0x7198540d,
	0x82f63b78, 0x92a8fc17, 0xa24bb5a6, 0xb21572c9, 0xc38d26c4, 0xd3d3e1ab, 0xe330a81a, 0xf36e6f75,
}

// Sum tells the CRC-32C of parts, one behind the other; Join that of two rows of which the sums are known, and the second one's length.
func Sum(parts ...[]byte) uint32 {
	c := ^uint32(0)
	for _, part := range parts {
		c = along(c, part)
	}
	return ^c
}

// along goes on with a sum over a part's bytes.
func along(c uint32, part []byte) uint32 {
	at := 0
next:
	if at == len(part) {
		return c
	}
	c ^= uint32(part[at])
	c = c>>4 ^ ofHalf[c&15]
	c = c>>4 ^ ofHalf[c&15]
	at++
	goto next
}

func Join(a, b uint32, n int) (uint32, api.Errno) {
	if n < 0 {
		return 0, api.ErrArg
	}
	// What the second row begins with and what is turned at the end stand in b already: the first row goes on over n bytes that are 0.
	return times(a, byBytes(n)) ^ b, api.OK
}

// byBytes is what n bytes more take a sum times: by squares, since n bytes may be more than anything could go through.
func byBytes(n int) uint32 {
	power, square := uint32(one), uint32(byByte)
	for ; n > 0; n >>= 1 {
		if n&1 == 1 {
			power = times(power, square)
		}
		square = times(square, square)
	}
	return power
}

// times is the product of two polynomials.
func times(a, b uint32) uint32 {
	product := uint32(0)
	for ; a != 0; a <<= 1 {
		if a&one != 0 {
			product ^= b
		}
		b = halved(b)
	}
	return product
}

// halved is one step of the sum.
func halved(c uint32) uint32 {
	if c&1 == 1 {
		return c>>1 ^ modulus
	}
	return c >> 1
}
