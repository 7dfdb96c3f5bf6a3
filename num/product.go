package num

import (
	"meridian/api"
)

// size is a number without its sign; that of the least one does not fit into an int.
func size(n int) uint64 {
	if n < 0 {
		return -uint64(n)
	}
	return uint64(n)
}

// signed puts a sign to a size: below 0 there is one number more than above.
func signed(size uint64, below bool) (int, api.Errno) {
	switch {
	case below && size <= most+1:
		return int(-size), api.OK
	case !below && size <= most:
		return int(size), api.OK
	}
	return 0, api.ErrOver
}

// times is the product of two sizes, half by half, as whole ones lose what is above 64 bits; false, if it does not fit into these.
func times(a, b uint64) (uint64, bool) {
	product, fits := uint64(0), true
	over := func(part uint64, shift int) bool {
		moved := part << shift
		product += moved
		return moved>>shift != part || product < moved
	}
parts:
	for i, x := range [2]uint64{a & low, a >> width} {
		for j, y := range [2]uint64{b & low, b >> width} {
			if over(x*y, (i+j)*width) {
				product, fits = 0, false
				break parts
			}
		}
	}
	return product, fits
}
