// Package gunz: packed data, read and written: see DOC.md.
package gunz

import (
	"errors"

	"gunz/checksum"
	"gunz/gziptext"
	"gunz/packed"
)

// Errno is what a call answers: OK or the reason for a refusal.
type Errno int

const (
	OK        Errno = 0
	ErrLong   Errno = 1  // data above their bound
	ErrShort  Errno = 2  // data end too early
	ErrBlock  Errno = 3  // no such kind of block
	ErrStored Errno = 4  // a length that does not agree with itself
	ErrCode   Errno = 5  // lengths that make no code
	ErrSymbol Errno = 6  // bits that are no symbol
	ErrFar    Errno = 7  // a distance beyond the beginning
	ErrLimit  Errno = 8  // more than may be put out
	ErrHead   Errno = 9  // a member's head that is wrong
	ErrSum    Errno = 10 // a check sum that is wrong
	ErrRange  Errno = 11 // a number out of its range
	ErrEnded  Errno = 12 // nothing more is read
)

// Member is a part of a gzip text.
type Member struct {
	Name    string
	Comment string
	Extra   string
	Time    int
	Data    string
}

const (
	maxData  = 4000 // bytes of packed data
	maxOut   = 6000 // bytes put out
	maxPlain = 1500 // bytes to be packed
	maxCache = 16   // tables that a decoder keeps
	lastKind = 2    // of the blocks that are written
	maxTime  = 4294967295
)

// Sum answers the check sum (P3).
func Sum(data string) int { return int(checksum.Of(data)) }

// Inflate reads packed data (P4).
func Inflate(data string, limit int) (string, int, Errno) {
	if refused := mayRead(data, limit); refused != OK {
		return "", 0, refused
	}
	reader := packed.NewReader(limit, packed.NewTables(0))
	out, err := reader.Read(data)
	if err != nil {
		return "", 0, toldAs(err)
	}
	return out, reader.Begun(), OK
}

// mayRead answers what is wrong with data and limit ahead of being read.
func mayRead(data string, limit int) Errno {
	if len(data) > maxData {
		return ErrLong
	}
	if !mayPutOut(limit) {
		return ErrRange
	}
	return OK
}

func mayPutOut(limit int) bool { return limit >= 0 && limit <= maxOut }

// toldAs answers by which number an error of the other packages is told.
func toldAs(err error) Errno {
	var short *packed.Short
	switch {
	case err == nil:
		return OK
	case errors.As(err, &short):
		return ErrShort
	case errors.Is(err, packed.ErrBlock):
		return ErrBlock
	case errors.Is(err, packed.ErrStored):
		return ErrStored
	case errors.Is(err, packed.ErrCode):
		return ErrCode
	case errors.Is(err, packed.ErrSymbol):
		return ErrSymbol
	case errors.Is(err, packed.ErrFar):
		return ErrFar
	case errors.Is(err, gziptext.ErrHead):
		return ErrHead
	case errors.Is(err, gziptext.ErrSum):
		return ErrSum
	}
	return ErrLimit
}

// Deflate writes packed data (P10 to P12).
func Deflate(plain string, kind int) (string, Errno) {
	if !isKind(kind) {
		return "", ErrRange
	}
	if len(plain) > maxPlain {
		return "", ErrLong
	}
	return packed.Pack(plain, kind), OK
}

func isKind(kind int) bool { return kind >= 0 && kind <= lastKind }
