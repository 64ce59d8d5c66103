package gziptext

import (
	"gunz/checksum"
	"gunz/packed"
)

// Write answers the gzip text of members, their data packed into a block of a
// kind from 0 to 2.
func Write(members []Member, kind int) string {
	var text []byte
	for _, one := range members {
		text = append(text, headOf(one)...)
		text = append(text, packed.Pack(one.Data, kind)...)
		text = appendNumber(text, int(checksum.Of(one.Data)), 4)
		text = appendNumber(text, len(one.Data), 4)
	}
	return string(text)
}

func headOf(one Member) []byte {
	head := []byte(begin)
	head = append(head, flagsOf(one))
	head = appendNumber(head, one.Time, 4)
	head = append(head, 0, 255)
	if one.Extra != "" {
		head = appendNumber(head, len(one.Extra), 2)
		head = append(head, one.Extra...)
	}
	if one.Name != "" {
		head = append(head, one.Name...)
		head = append(head, 0)
	}
	if one.Comment != "" {
		head = append(head, one.Comment...)
		head = append(head, 0)
	}
	return head
}

// flagsOf answers the flags for what is not empty.
func flagsOf(one Member) byte {
	var flags byte
	if one.Extra != "" {
		flags |= hasExtra
	}
	if one.Name != "" {
		flags |= hasName
	}
	if one.Comment != "" {
		flags |= hasComment
	}
	return flags
}

// appendNumber puts a number of n bytes, the lowest first.
func appendNumber(text []byte, value, n int) []byte {
	for i := range n {
		text = append(text, byte(value>>(8*i)))
	}
	return text
}
