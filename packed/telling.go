package packed

import "slices"

// telling is a symbol by which lengths are told, and the number behind it.
type telling struct {
	symbol int
	more   int
}

const (
	sameAgain   = 16
	someZeros   = 17
	manyZeros   = 18
	longestTold = 7 // among the lengths of these symbols
)

// behindTelling answers how many bits stand behind a symbol that tells lengths,
// and how many lengths it tells with all of them 0.
func behindTelling(symbol int) (bits, least int) {
	switch symbol {
	case sameAgain:
		return 2, 3
	case someZeros:
		return 3, 3
	case manyZeros:
		return 7, 11
	}
	return 0, 1
}

// tellingsOf tells the lengths of the first symbols and of the first distances.
func tellingsOf(lengths *Lengths, symbols, distances int) []telling {
	rest := slices.Concat(lengths[:symbols], lengths[symbolCount:symbolCount+distances])
	before := -1
	var tellings []telling
	for len(rest) > 0 {
		length := int(rest[0])
		same := sameLengths(rest)
		symbol := tellingSymbol(length, same, length == before)
		bits, least := behindTelling(symbol)
		times := min(same, least+1<<bits-1)
		tellings = append(tellings, telling{symbol, times - least})
		before = length
		rest = rest[times:]
	}
	return tellings
}

// sameLengths answers how many lengths are the same as the first one.
func sameLengths(lengths []uint8) int {
	for i, length := range lengths {
		if length != lengths[0] {
			return i
		}
	}
	return len(lengths)
}

// tellingSymbol answers a symbol that tells as many of so many same lengths as
// can be; again says that the one ahead of them is the same, too.
func tellingSymbol(length, same int, again bool) int {
	switch {
	case length == 0 && same >= 11:
		return manyZeros
	case length == 0 && same >= 3:
		return someZeros
	case again && same >= 3:
		return sameAgain
	}
	return length
}

// lengthsTelling answers the lengths of the symbols of tellings. At least two
// symbols are there, so these are complete: no 257 lengths or more that are
// all the same would be.
func lengthsTelling(tellings []telling) []uint8 {
	var counts [len(tellingOrder)]int
	for _, one := range tellings {
		counts[one.symbol]++
	}
	return bestLengths(counts[:], longestTold)
}

// upToLast answers how many lengths there are up to the last one that is not 0.
func upToLast(lengths []uint8) int {
	n := len(lengths)
	for n > 0 && lengths[n-1] == 0 {
		n--
	}
	return n
}
