package num

import (
	"meridian/api"
)

// halves is a number that may be too great for 64 bits: its low 32 bits, and all that is above them, with the sign.
// There is room in the upper half for a sum of more numbers than one call may be handed.
type halves [2]int

func split(n int) halves { return halves{n & low, n >> width} }

func (h halves) plus(k halves) halves { return halves{h[0] + k[0], h[1] + k[1]}.carried() }

func (h halves) minus(k halves) halves { return halves{h[0] - k[0], h[1] - k[1]}.carried() }

// carried gives each number one form alone, so that halves can be compared; the shift rounds down, so it borrows, too.
func (h halves) carried() halves { return halves{h[0] & low, h[1] + h[0]>>width} }

func (h halves) whole() (int, api.Errno) {
	n := h[1]<<width | h[0]
	if split(n) != h {
		return 0, api.ErrOver
	}
	return n, api.OK
}
