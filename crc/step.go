package crc

const (
	// most is the greatest sum.
	most = 1<<32 - 1

	mostBytes = 1 << 20

	octet = 8
	// A sum is stepped with so many bits at once.
	width = 4
	low   = 1<<width - 1
)

// fours are what the lowest four bits of a sum come to, when it is stepped with as many bits 0.
var fours = [1 << width]int{
	0x00000000, 0x1db71064, 0x3b6e20c8, 0x26d930ac,
	0x76dc4190, 0x6b6b51f4, 0x4db26158, 0x5005713c,
	0xedb88320, 0xf00f9344, 0xd6d6a3e8, 0xcb61b38c,
	0x9b64c2b0, 0x86d3d2d4, 0xa00ae278, 0xbdbdf21c,
}

func maySum(sum int) bool { return sum >= 0 && sum <= most }

func maySize(bytes int) bool { return bytes >= 0 && bytes <= mostBytes }

// noughts is a sum, stepped so many times with four bits 0. To step with other bits, turn the sum by them first, from its lowest bit on: there each of them waits for its step, even one that is above the sum's 32.
func noughts(sum, times int) int {
	step := func() { sum = sum>>width ^ fours[sum&low] }
stepping:
	for range times {
		// What has come to 0 stays so, however many noughts follow.
		if sum == 0 {
			break stepping
		}
		step()
	}
	return sum
}
