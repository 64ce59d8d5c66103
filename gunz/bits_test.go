package gunz_test

import (
	"fmt"
	"strings"
)

// Bits of data are written here as a text of 0 and 1, the first bit first.

// number answers a number of n bits, the lowest first.
func number(value, n int) string {
	var b strings.Builder
	for i := range n {
		b.WriteByte('0' + byte(value>>i&1))
	}
	return b.String()
}

// packBits answers the bytes of bits; what is left of the last one is 0.
func packBits(bits string) string {
	data := make([]byte, (len(bits)+7)/8)
	for i := range len(bits) {
		data[i/8] |= (bits[i] - '0') << (i % 8)
	}
	return string(data)
}

// allBits answers the bits of bytes.
func allBits(data string) string {
	var b strings.Builder
	for i := range len(data) {
		b.WriteString(number(int(data[i]), 8))
	}
	return b.String()
}

// codesOf answers the code of each symbol, an empty one for length 0.
func codesOf(lengths []int) []string {
	codes := make([]string, len(lengths))
	next, before := 0, 0
	for n := 1; n <= 15; n++ {
		for symbol, length := range lengths {
			if length == n {
				next <<= n - before
				before = n
				codes[symbol] = fmt.Sprintf("%0*b", n, next)
				next++
			}
		}
	}
	return codes
}

func repeated(value, times int) []int {
	list := make([]int, times)
	for i := range list {
		list[i] = value
	}
	return list
}

func joined(lists ...[]int) []int {
	var all []int
	for _, list := range lists {
		all = append(all, list...)
	}
	return all
}

// lengthsWith answers count lengths, 0 but for those told.
func lengthsWith(count int, told map[int]int) []int {
	lengths := make([]int, count)
	for symbol, length := range told {
		lengths[symbol] = length
	}
	return lengths
}

// codes are those of a block's symbols and distances.
type codes struct{ symbols, distances []string }

func fixedCodes() codes {
	return codes{
		codesOf(joined(repeated(8, 144), repeated(9, 112), repeated(7, 24), repeated(8, 8))),
		codesOf(repeated(5, 32)),
	}
}

func (c codes) end() string { return c.symbols[256] }

func (c codes) bytes(text string) string {
	var b strings.Builder
	for i := range len(text) {
		b.WriteString(c.symbols[text[i]])
	}
	return b.String()
}

// The document's numbers, and how many bits stand behind the symbols.
var (
	lengthsFrom = []int{3, 4, 5, 6, 7, 8, 9, 10, 11, 13, 15, 17, 19, 23, 27, 31, 35, 43, 51, 59, 67, 83, 99, 115, 131, 163, 195, 227, 258}
	lengthsBits = []int{0, 0, 0, 0, 0, 0, 0, 0, 1, 1, 1, 1, 2, 2, 2, 2, 3, 3, 3, 3, 4, 4, 4, 4, 5, 5, 5, 5, 0}

	distancesFrom = []int{1, 2, 3, 4, 5, 7, 9, 13, 17, 25, 33, 49, 65, 97, 129, 193, 257, 385, 513, 769, 1025, 1537, 2049, 3073, 4097, 6145, 8193, 12289, 16385, 24577}
	distancesBits = []int{0, 0, 0, 0, 1, 1, 2, 2, 3, 3, 4, 4, 5, 5, 6, 6, 7, 7, 8, 8, 9, 9, 10, 10, 11, 11, 12, 12, 13, 13}
)

func lastUpTo(from []int, value int) int {
	found := 0
	for i, first := range from {
		if first <= value {
			found = i
		}
	}
	return found
}

func (c codes) length(value int) string {
	i := lastUpTo(lengthsFrom, value)
	return c.symbols[257+i] + number(value-lengthsFrom[i], lengthsBits[i])
}

func (c codes) distance(value int) string {
	i := lastUpTo(distancesFrom, value)
	return c.distances[i] + number(value-distancesFrom[i], distancesBits[i])
}

func (c codes) again(length, distance int) string {
	return c.length(length) + c.distance(distance)
}

// head answers a block's first three bits.
func head(last bool, kind int) string {
	if last {
		return "1" + number(kind, 2)
	}
	return "0" + number(kind, 2)
}

// stored answers a block of kind 0 behind bits.
func stored(bits string, last bool, text string) string {
	bits += head(last, 0)
	for len(bits)%8 != 0 {
		bits += "1" // what is passed over may be anything
	}
	return bits + number(len(text), 16) + number(65535-len(text), 16) + allBits(text)
}

// fixed answers a block of kind 1 that puts text out.
func fixed(last bool, text string) string {
	c := fixedCodes()
	return head(last, 1) + c.bytes(text) + c.end()
}

// A telling is a symbol by which lengths are told, with the number behind it.
type telling struct{ symbol, more int }

// tellingLengths are complete, and give all the 19 symbols a code.
func tellingLengths() []int { return joined(repeated(4, 13), repeated(5, 6)) }

// sizes answers the numbers of symbols, distances and telling lengths.
func sizes(symbols, distances, tellings int) string {
	return number(symbols-257, 5) + number(distances-1, 5) + number(tellings-4, 4)
}

var tellingOrder = []int{16, 17, 18, 0, 8, 7, 9, 6, 10, 5, 11, 4, 12, 3, 13, 2, 14, 1, 15}

// tellingCode answers the lengths of the first n symbols that tell lengths.
func tellingCode(lengths []int, n int) string {
	var b strings.Builder
	for _, symbol := range tellingOrder[:n] {
		b.WriteString(number(lengths[symbol], 3))
	}
	return b.String()
}

func told(lengths []int, tellings []telling) string {
	codes := codesOf(lengths)
	var b strings.Builder
	for _, one := range tellings {
		b.WriteString(codes[one.symbol] + number(one.more, map[int]int{16: 2, 17: 3, 18: 7}[one.symbol]))
	}
	return b.String()
}

// oneByOne tells each length by itself.
func oneByOne(lengths []int) []telling {
	var list []telling
	for _, length := range lengths {
		list = append(list, telling{symbol: length})
	}
	return list
}

// ownHead answers all of a block of kind 2 that stands ahead of its symbols.
func ownHead(last bool, symbols, distances []int) string {
	return head(last, 2) + sizes(len(symbols), len(distances), 19) + tellingCode(tellingLengths(), 19) +
		told(tellingLengths(), oneByOne(joined(symbols, distances)))
}

func ownCodes(symbols, distances []int) codes {
	return codes{codesOf(symbols), codesOf(distances)}
}
