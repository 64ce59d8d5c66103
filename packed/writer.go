package packed

// writer puts bits behind each other; what is left of the last byte is 0.
type writer struct {
	data []byte
	bits int
}

// Pack answers plain as packed data of one block, which is of a kind from 0 to
// 2. A block of kind 0 has room for at most 65535 bytes.
func Pack(plain string, kind int) string {
	var w writer
	w.number(1, 1)
	w.number(kind, 2)
	if kind == 0 {
		w.storedBytes(plain)
		return string(w.data)
	}
	parts := partsOf(plain)
	lengths := fixedLengths()
	if kind == 2 {
		lengths = lengthsFor(parts)
		w.codes(&lengths)
	}
	w.symbols(parts, &lengths)
	return string(w.data)
}

func (w *writer) bit(bit int) {
	if w.bits%8 == 0 {
		w.data = append(w.data, 0)
	}
	w.data[w.bits/8] |= byte(bit << (w.bits % 8))
	w.bits++
}

// number puts a number of n bits.
func (w *writer) number(value, n int) {
	for i := range n {
		w.bit(value >> i & 1)
	}
}

// word puts a code: its highest bit comes first, other than that of a number.
func (w *writer) word(one word) {
	for i := one.length - 1; i >= 0; i-- {
		w.bit(one.bits >> i & 1)
	}
}

func (w *writer) storedBytes(plain string) {
	w.bits = 8 * len(w.data)
	w.number(len(plain), 16)
	w.number(65535-len(plain), 16)
	for i := range len(plain) {
		w.number(int(plain[i]), 8)
	}
}

// symbols puts those of the parts, and the end of the block.
func (w *writer) symbols(parts []part, lengths *Lengths) {
	symbols := wordsOf(lengths[:symbolCount])
	distances := wordsOf(lengths[symbolCount:])
	for _, one := range parts {
		symbol := one.symbol()
		w.word(symbols[symbol])
		if one.length == 0 {
			continue
		}
		w.number(one.length-lengthFrom[symbol-firstLength], lengthBits(symbol))
		distance := distanceSymbol(one.distance)
		w.word(distances[distance])
		w.number(one.distance-distanceFrom[distance], distanceBits(distance))
	}
	w.word(symbols[endOfBlock])
}

// codes puts all of a block of kind 2 that tells the lengths.
func (w *writer) codes(lengths *Lengths) {
	symbols := upToLast(lengths[:symbolCount])
	distances := max(1, upToLast(lengths[symbolCount:]))
	tellings := tellingsOf(lengths, symbols, distances)
	telling := lengthsTelling(tellings)
	count := len(tellingOrder)
	for count > 4 && telling[tellingOrder[count-1]] == 0 {
		count--
	}
	w.number(symbols-257, 5)
	w.number(distances-1, 5)
	w.number(count-4, 4)
	for i := range count {
		w.number(int(telling[tellingOrder[i]]), 3)
	}
	words := wordsOf(telling)
	for _, one := range tellings {
		bits, _ := behindTelling(one.symbol)
		w.word(words[one.symbol])
		w.number(one.more, bits)
	}
}
