// Package checksum: the check sum of gzip, CRC-32.
package checksum

// The polynomial of CRC-32, its lowest power in the highest bit, since the
// bits of a byte are taken lowest first.
const polynomial = 0xedb88320

// table holds for each byte what it comes to when it is shifted out.
var table [256]uint32

func init() {
	for i := range len(table) {
		table[i] = shiftedOut(uint32(i))
	}
}

func shiftedOut(rest uint32) uint32 {
	for range 8 {
		if rest&1 == 1 {
			rest = rest>>1 ^ polynomial
		} else {
			rest >>= 1
		}
	}
	return rest
}

// Of answers the check sum of data.
func Of(data string) uint32 {
	// Begun and ended with all bits turned over, so that zeros at the
	// beginning and at the end are seen.
	sum := ^uint32(0)
	for i := range len(data) {
		sum = sum>>8 ^ table[byte(sum)^data[i]]
	}
	return ^sum
}
