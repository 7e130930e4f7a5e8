// Package bigend is layer 1: big-endian integers, and integers of variable length. See shared/doc/01-bigend.md.
package bigend

import (
	"math"
	"math/bits"
	"slices"

	"tempo/api"
)

const (
	maxWidth  = 8   // bytes of the widest fixed encoding
	groupBits = 7   // bits of a number that one byte of its groups carries
	more      = 128 // the bit of a byte behind which another group follows
)

// Append appends n to b in width bytes, big-endian.
func Append(b []byte, n uint64, width int) ([]byte, api.Errno) {
	if !isWidth(width) {
		return nil, api.ErrArg
	}
	if n>>(8*width) != 0 {
		return nil, api.ErrOver
	}
	out := copyWithRoom(b, width)
	for i := range width {
		out = append(out, byte(n>>(8*(width-1-i))))
	}
	return out, api.OK
}

// Uint decodes the big-endian integer of width bytes at an offset.
func Uint(b []byte, at, width int) (uint64, api.Errno) {
	if !isWidth(width) {
		return 0, api.ErrArg
	}
	if at < 0 {
		return 0, api.ErrRange
	}
	// Not at+width > len(b): the sum would overflow for the greatest offsets.
	if at > len(b)-width {
		return 0, api.ErrTorn
	}
	var n uint64
	for i := range width {
		n = n<<8 | uint64(b[at+i])
	}
	return n, api.OK
}

// AppendVar appends n to b in groups of seven bits.
func AppendVar(b []byte, n uint64) []byte {
	size := Size(n)
	out := copyWithRoom(b, size)
	for i := range size {
		out = append(out, byte(n>>(groupBits*(size-1-i)))|more)
	}
	out[len(out)-1] &^= more
	return out
}

// Var decodes the integer in groups of seven bits at an offset, and returns the offset behind it.
func Var(b []byte, at int) (uint64, int, api.Errno) {
	if at < 0 {
		return 0, 0, api.ErrRange
	}
	next, found := behindGroups(b, at)
	if !found {
		return 0, 0, api.ErrTorn
	}
	if b[at] == more {
		return 0, 0, api.ErrForm
	}
	n, fits := joinGroups(b[at:next])
	if !fits {
		return 0, 0, api.ErrOver
	}
	return n, next, api.OK
}

// Size returns how many bytes AppendVar appends.
func Size(n uint64) int {
	return max(1, (bits.Len64(n)+groupBits-1)/groupBits)
}

// Compare compares two byte strings in lexicographic order.
func Compare(a, b []byte) int {
	return slices.Compare(a, b)
}

func isWidth(width int) bool {
	return 1 <= width && width <= maxWidth
}

// copyWithRoom returns a copy of b to which so many bytes can be appended. Appending to b itself could write behind its end, and share its memory.
func copyWithRoom(b []byte, room int) []byte {
	out := make([]byte, len(b), len(b)+room)
	copy(out, b)
	return out
}

// behindGroups returns the offset behind the last one of the groups that begin at an offset. It goes on for as long as b does, since a last group that is missing is an error that comes before those of numbers that are too great.
func behindGroups(b []byte, at int) (int, bool) {
	next := at
groups:
	for {
		switch {
		case next >= len(b):
			return 0, false
		case b[next] < more:
			break groups
		}
		next++
	}
	return next + 1, true
}

// joinGroups returns the number of which these are the groups, if it fits in 64 bits.
func joinGroups(groups []byte) (uint64, bool) {
	var n uint64
	for _, group := range groups {
		if n > math.MaxUint64>>groupBits {
			return 0, false
		}
		n = n<<groupBits | uint64(group&^more)
	}
	return n, true
}
