package packed

import (
	"cmp"
	"slices"
)

// lengthsFor answers lengths by which the symbols and distances of the parts
// need the fewest bits.
func lengthsFor(parts []part) Lengths {
	var symbols [symbolCount]int
	var distances [distanceCount]int
	symbols[endOfBlock]++
	for _, one := range parts {
		symbols[one.symbol()]++
		if one.length > 0 {
			distances[distanceSymbol(one.distance)]++
		}
	}
	if len(parts) == 0 {
		symbols[0]++ // the end alone would make no complete lengths
	}
	var lengths Lengths
	copy(lengths[:symbolCount], bestLengths(symbols[:], longestCode))
	copy(lengths[symbolCount:], bestLengths(distances[:], longestCode))
	return lengths
}

// bundle is a symbol, or bundles taken together, in which a symbol may come
// more than once.
type bundle struct {
	count   int
	symbols []int
}

// bestLengths answers lengths, none above longest, by which symbols that come
// so often as counts says need the fewest bits. They are complete if two
// symbols or more come at all; a single one has length 1. There must not be
// more symbols than codes of the greatest length.
//
// This is package-merge: of the last round's bundles those with the lowest
// counts are taken, two fewer than twice the symbols, and a symbol has one bit
// for each time that it is among them. Each round adds every symbol once, so
// none has more bits than there are rounds.
func bestLengths(counts []int, longest int) []uint8 {
	lengths := make([]uint8, len(counts))
	singles := singlesOf(counts)
	if len(singles) == 1 {
		lengths[singles[0].symbols[0]] = 1
	}
	row := singles
	for range longest - 1 {
		row = slices.Concat(singles, pairsOf(row))
		slices.SortStableFunc(row, byCount)
	}
	for _, taken := range row[:max(0, 2*len(singles)-2)] {
		for _, symbol := range taken.symbols {
			lengths[symbol]++
		}
	}
	return lengths
}

// singlesOf answers the symbols that come at all, the rarest first.
func singlesOf(counts []int) []bundle {
	var singles []bundle
	for symbol, count := range counts {
		if count > 0 {
			singles = append(singles, bundle{count, []int{symbol}})
		}
	}
	slices.SortStableFunc(singles, byCount)
	return singles
}

// pairsOf takes bundles together two by two; one that is left over is dropped.
func pairsOf(row []bundle) []bundle {
	var pairs []bundle
	for ; len(row) >= 2; row = row[2:] {
		a, b := row[0], row[1]
		pairs = append(pairs, bundle{a.count + b.count, slices.Concat(a.symbols, b.symbols)})
	}
	return pairs
}

func byCount(a, b bundle) int {
	return cmp.Compare(a.count, b.count)
}
