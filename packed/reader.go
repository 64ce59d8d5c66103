// Package packed reads packed data, step by step, and writes them.
package packed

import (
	"slices"
	"strconv"
)

// place is what a reader stands ahead of.
type place int

const (
	atHead    place = iota // a block's first three bits
	atSizes                // the two numbers of kind 0
	atBytes                // the bytes of kind 0
	atCodes                // the codes of kind 2
	atSymbols              // symbols, of kind 1, or of kind 2 with its codes read
	atEnd                  // nothing more
)

// Reader reads packed data that come in pieces. Make it by NewReader.
type Reader struct {
	data   []byte // the pieces so far, but for the bytes that were passed
	passed int    // bytes that no step needs any more
	at     int    // the bit of data that is taken next
	begin  int    // the first bit of the step at hand
	limit  int
	out    []byte
	place  place
	last   bool   // the block at hand is the last one
	left   int    // bytes of kind 0 that are still to come
	table  *table // what the symbols of the block at hand are read by
	tables *Tables
}

// NewReader makes a reader at the beginning of packed data that puts out at
// most limit bytes, and asks tables for those of the blocks of kind 2.
func NewReader(limit int, tables *Tables) *Reader {
	return &Reader{limit: limit, tables: tables}
}

// Read takes a piece, makes all the steps that can be made, and answers what
// they put out. There is no error if the last block has ended. Where the error
// wraps a Short, the reader goes on with the next piece.
func (r *Reader) Read(piece string) (string, error) {
	r.data = append(r.data, piece...)
	ahead := len(r.out)
	err := r.steps()
	if err != nil {
		err = &Fault{"the step from bit " + strconv.Itoa(8*r.passed+r.begin), err}
	}
	r.pass()
	return string(r.out[ahead:]), err
}

// pass lets go of the bytes that were taken whole.
func (r *Reader) pass() {
	whole := r.at / 8
	r.data = slices.Delete(r.data, 0, whole)
	r.passed += whole
	r.at -= 8 * whole
}

// Begun answers how many bytes were begun by the steps so far.
func (r *Reader) Begun() int {
	return r.passed + bytesBegun(r.at)
}

// bytesBegun answers how many bytes so many bits begin.
func bytesBegun(bits int) int {
	return (bits + 7) / 8
}

// steps makes steps until the last block has ended. A step takes all its bits
// ahead of changing anything but r.at: so that alone is put back where bit
// gave up.
func (r *Reader) steps() (err error) {
	defer func() {
		caught := recover()
		if caught == nil {
			return
		}
		short, ok := caught.(*Short)
		if !ok {
			panic(caught)
		}
		r.at = r.begin
		err = short
	}()
	for r.place != atEnd {
		if err := r.goOn(); err != nil {
			return err
		}
	}
	return nil
}

// bit takes a bit, and gives up where there is none.
func (r *Reader) bit() int {
	if r.at >= 8*len(r.data) {
		panic(&Short{Have: 8 * (r.passed + len(r.data))})
	}
	bit := r.data[r.at/8] >> (r.at % 8) & 1
	r.at++
	return int(bit)
}

// number takes a number of n bits.
func (r *Reader) number(n int) int {
	sum := 0
	for i := range n {
		sum |= r.bit() << i
	}
	return sum
}

// symbol takes a symbol by its code.
func (r *Reader) symbol(c *code) (int, error) {
	taken := 0   // the bits so far, the highest first
	first := 0   // the first code of the length at hand
	shorter := 0 // how many symbols have shorter codes
	for n := 1; n <= c.longest; n++ {
		taken = taken<<1 | r.bit()
		first <<= 1
		if taken-first < c.count[n] {
			return c.symbols[shorter+taken-first], nil
		}
		first += c.count[n]
		shorter += c.count[n]
	}
	return 0, &Fault{"a code", ErrSymbol}
}

func (r *Reader) put(b byte) error {
	if len(r.out) >= r.limit {
		return ErrLimit
	}
	r.out = append(r.out, b)
	return nil
}
