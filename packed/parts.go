package packed

const (
	leastRepeat = 3
	mostRepeat  = 258
)

// part is a byte alone, or, if it has a length, so many bytes that are the
// same as those a distance back.
type part struct {
	value    byte
	length   int
	distance int
}

// partsOf divides plain into the parts that a block of kind 1 or 2 has symbols
// for.
func partsOf(plain string) []part {
	var parts []part
	for at := 0; at < len(plain); {
		one := longestRepeat(plain, at)
		if one.length < leastRepeat {
			one = part{value: plain[at]}
		}
		parts = append(parts, one)
		at += max(1, one.length)
	}
	return parts
}

// longestRepeat goes from the nearest place to the farthest, and so keeps the
// nearest of those from which the most bytes are the same.
func longestRepeat(plain string, at int) part {
	var longest part
	for distance := 1; distance <= at; distance++ {
		length := sameBytes(plain, at-distance, at)
		if length > longest.length {
			longest = part{length: length, distance: distance}
		}
	}
	return longest
}

// sameBytes answers how many bytes from one place on are the same as those from
// a later one on. The first ones may go on into the later ones, since a copy
// may, too.
func sameBytes(plain string, from, at int) int {
	most := min(mostRepeat, len(plain)-at)
	for n := range most {
		if plain[from+n] != plain[at+n] {
			return n
		}
	}
	return most
}

// symbol answers the one that a part begins with. The longest repeat has two;
// the last one needs no bits behind it.
func (p part) symbol() int {
	if p.length == 0 {
		return int(p.value)
	}
	symbol := lastLength
	for lengthFrom[symbol-firstLength] > p.length {
		symbol--
	}
	return symbol
}

func distanceSymbol(distance int) int {
	symbol := lastDistance
	for distanceFrom[symbol] > distance {
		symbol--
	}
	return symbol
}
