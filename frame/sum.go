package frame

// remainders are those of the 16 values of four bits, by the polynomial 1EDC6F41, bits from the lowest on.
// A table for whole bytes would be longer than a package's table may be.
var remainders = [16]uint32{
	0x00000000, 0x105ec76f, 0x20bd8ede, 0x30e349b1,
	0x417b1dbc, 0x5125dad3, 0x61c69362, 0x7198540d,
	0x82f63b78, 0x92a8fc17, 0xa24bb5a6, 0xb21572c9,
	0xc38d26c4, 0xd3d3e1ab, 0xe330a81a, 0xf36e6f75,
}

// begun is a check sum's state ahead of the first byte; finished turns all bits of the last one.
const begun = ^uint32(0)

func finished(state uint32) uint32 {
	return ^state
}

// Sum answers the check sum of b: CRC-32C.
func Sum(b []byte) uint32 {
	return finished(sumOn(begun, b))
}

// frameSum is the check sum that stands in a frame: of its size's bytes and its payload.
func frameSum(size []byte, payload string) uint32 {
	return finished(sumOn(sumOn(begun, size), payload))
}

// sumOn takes the bytes of b into a state, four bits at a time.
func sumOn[B []byte | string](state uint32, b B) uint32 {
	for i := range len(b) {
		state ^= uint32(b[i])
		state = remainders[state&15] ^ state>>4
		state = remainders[state&15] ^ state>>4
	}
	return state
}
