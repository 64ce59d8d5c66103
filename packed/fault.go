package packed

import (
	"errors"
	"strconv"
)

// What can be wrong with packed data.
var (
	ErrBlock  = errors.New("no such kind of block")
	ErrStored = errors.New("a number of bytes that does not agree with itself")
	ErrCode   = errors.New("lengths that make no code")
	ErrSymbol = errors.New("bits that are no symbol")
	ErrFar    = errors.New("a distance beyond the beginning")
	ErrLimit  = errors.New("more than may be put out")
)

// Short is the cause where nothing is wrong so far, but the bits at hand do
// not suffice for the next step.
type Short struct {
	Have int
}

func (s *Short) Error() string {
	return "there are " + strconv.Itoa(s.Have) + " bits and no more"
}

// Fault tells where something is amiss and wraps what it is.
type Fault struct {
	Where string
	Cause error
}

func (f *Fault) Error() string {
	return f.Where + ": " + f.Cause.Error()
}

func (f *Fault) Unwrap() error {
	return f.Cause
}
