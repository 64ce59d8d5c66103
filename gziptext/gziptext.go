// Package gziptext reads and writes gzip texts.
package gziptext

import "errors"

// What can be wrong with a gzip text beside its packed data.
var (
	ErrHead = errors.New("a head that is not as it must be")
	ErrSum  = errors.New("an end that does not agree with the data")
)

// Member is a part of a gzip text.
type Member struct {
	Name    string
	Comment string
	Extra   string
	Time    int
	Data    string
}

// The bounds of what is read.
const (
	MostMembers = 8
	LongestName = 40 // bytes of a name, a comment or an extra field
)

// begin is what each member begins with.
const begin = "\x1f\x8b\x08"

// The flags of a head. The lowest one says nothing about what follows.
const (
	hasCheck   = 2
	hasExtra   = 4
	hasName    = 8
	hasComment = 16
	noFlags    = 32 + 64 + 128
)
