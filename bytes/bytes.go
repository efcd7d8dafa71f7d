// Package bytes is layer 1: numbers, strings and lists of strings as bytes. See shared/doc/01-bytes.md.
package bytes

import (
	"math/bits"

	"cardindex/api"
)

const (
	digitBits = 7
	more      = 1 << digitBits // what is added to a digit that another one follows
	maxDigits = 10             // 2^64 - 1 has as many
	maxTenth  = 1              // nine digits are 63 bits: one bit is left for the tenth
)

// Uint is n, written behind out.
func Uint(out []byte, n uint64) []byte {
	return putUint(fresh(out, digits(n)), n)
}

// GetUint is the number that is written at a place of b, and the place behind it.
func GetUint(b []byte, at int) (uint64, int, api.Errno) {
	if at < 0 || at > len(b) {
		return 0, 0, api.ErrArg
	}
	var n uint64
	for i := range maxDigits {
		if at+i == len(b) {
			return 0, 0, api.ErrShort
		}
		digit := b[at+i]
		n |= uint64(digit%more) << (digitBits * i)
		if digit >= more {
			continue
		}
		if !mayBeLast(digit, i) {
			return 0, 0, api.ErrBytes
		}
		return n, at + i + 1, api.OK
	}
	// An eleventh digit makes the number too great, or is a 0 that may not be last.
	return 0, 0, api.ErrBytes
}

// Blob is the string b, written behind out.
func Blob(out, b []byte) []byte {
	return putBlob(fresh(out, blobLen(b)), b)
}

// GetBlob is the string of at most most bytes that is written at a place of b, and the place behind it.
func GetBlob(b []byte, at, most int) ([]byte, int, api.Errno) {
	n, from, err := GetUint(b, at)
	if err != api.OK {
		return nil, 0, err
	}
	if isAbove(n, most) {
		return nil, 0, api.ErrLong
	}
	if isAbove(n, len(b)-from) {
		return nil, 0, api.ErrShort
	}
	next := from + int(n)
	return fresh(b[from:next], 0), next, api.OK
}

// Blobs is the list l, written behind out.
func Blobs(out []byte, l [][]byte) []byte {
	room := digits(uint64(len(l)))
	for _, b := range l {
		room += blobLen(b)
	}
	written := putUint(fresh(out, room), uint64(len(l)))
	for _, b := range l {
		written = putBlob(written, b)
	}
	return written
}

// GetBlobs is the list of at most many strings, of at most most bytes each, that is written at a place of b, and the place behind it.
func GetBlobs(b []byte, at, many, most int) ([][]byte, int, api.Errno) {
	n, next, err := GetUint(b, at)
	if err != api.OK {
		return nil, 0, err
	}
	if isAbove(n, many) {
		return nil, 0, api.ErrLong
	}
	// No room is made for n strings ahead: n may be far more than b has bytes.
	var l [][]byte
	for range n {
		s, behind, err := GetBlob(b, next, most)
		if err != api.OK {
			return nil, 0, err
		}
		l = append(l, s)
		next = behind
	}
	return l, next, api.OK
}

// digits is how many digits n has.
func digits(n uint64) int {
	return max(1, (bits.Len64(n)+digitBits-1)/digitBits)
}

// blobLen is how many bytes the string b has when it is written.
func blobLen(b []byte) int {
	return digits(uint64(len(b))) + len(b)
}

// mayBeLast: may the last digit of a number, the i-th from 0 on, be this one?
func mayBeLast(digit byte, i int) bool {
	if i > 0 && digit == 0 {
		return false
	}
	return i < maxDigits-1 || digit <= maxTenth
}

// isAbove: is n above a limit? It is, whatever it is, above one below 0.
func isAbove(n uint64, limit int) bool {
	return limit < 0 || n > uint64(limit)
}

// fresh is b in memory of its own, with room for so many bytes more: what is handed in may have spare room that is another's.
func fresh(b []byte, room int) []byte {
	own := make([]byte, len(b), len(b)+room)
	copy(own, b)
	return own
}

// putUint puts n behind own, which is nobody else's.
func putUint(own []byte, n uint64) []byte {
	for range digits(n) - 1 {
		own = append(own, byte(n%more)+more)
		n >>= digitBits
	}
	return append(own, byte(n))
}

// putBlob puts the string b behind own, which is nobody else's.
func putBlob(own, b []byte) []byte {
	return append(putUint(own, uint64(len(b))), b...)
}
