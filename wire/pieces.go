package wire

import (
	"iter"

	"meridian/api"
)

const (
	most = 1<<63 - 1

	octet   = 8
	longest = 8

	width      = 7
	more       = 1 << width
	mostPieces = 10
	// highest is what ten pieces leave to the tenth one of 64 bits.
	highest = 1<<(64-(mostPieces-1)*width) - 1
)

func maySize(size int) bool { return size >= 1 && size <= longest }

// turned keeps a number's sign in its lowest bit, so that small numbers of either sign need few pieces.
func turned(n int) uint64 {
	if n < 0 {
		return uint64(^n)<<1 | 1
	}
	return uint64(n) << 1
}

func turnedBack(n uint64) int {
	if n&1 == 1 {
		return ^int(n >> 1)
	}
	return int(n >> 1)
}

// pieces tells a number's pieces, the lowest one first.
func pieces(n uint64) iter.Seq[byte] {
	return func(yield func(byte) bool) {
		left := n
		for ; left >= more; left >>= width {
			if !yield(byte(left) | more) {
				return
			}
		}
		yield(byte(left))
	}
}

// mayBePieces tells bytes one by one, but no more than a number has pieces.
func mayBePieces(b []byte) iter.Seq[byte] {
	return func(yield func(byte) bool) {
		for _, piece := range b[:min(len(b), mostPieces)] {
			if !yield(piece) {
				return
			}
		}
	}
}

// inPieces is the number at the beginning of bytes, and in how many pieces it is.
func inPieces(b []byte) (uint64, int, api.Errno) {
	n, size := uint64(0), 0
	put := func(piece byte) {
		n |= uint64(piece%more) << (size * width)
		size++
	}
	last := byte(more)
number:
	for last = range mayBePieces(b) {
		put(last)
		if last < more {
			break number
		}
	}
	if e := wrong(last, size); e != api.OK {
		return 0, 0, e
	}
	return n, size, api.OK
}

// wrong is what is wrong with so many pieces, of which the last one tells all.
func wrong(last byte, size int) api.Errno {
	switch {
	case last >= more && size < mostPieces:
		return api.ErrEnd
	case last == 0 && size > 1:
		return api.ErrForm
	// A tenth piece that is not the last one is above the highest, too.
	case last > highest && size == mostPieces:
		return api.ErrForm
	}
	return api.OK
}

// inBytes is the number that so many bytes at the beginning are.
func inBytes(b []byte, size int) (uint64, int, api.Errno) {
	if !maySize(size) {
		return 0, 0, api.ErrArg
	}
	if size > len(b) {
		return 0, 0, api.ErrEnd
	}
	n := uint64(0)
	for place, part := range b[:size] {
		n |= uint64(part) << (place * octet)
	}
	return n, size, api.OK
}

// fitting is what was read, if it is a number that may be.
func fitting(n uint64, size int, e api.Errno) (uint64, int, api.Errno) {
	if e == api.OK && n > most {
		return 0, 0, api.ErrOver
	}
	return n, size, e
}
