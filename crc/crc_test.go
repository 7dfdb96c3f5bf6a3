package crc

import (
	"bytes"
	"hash/crc32"
	"math/bits"
	"math/rand/v2"
	"slices"
	"strings"
	"testing"

	"meridian/api"
)

const (
	greatest = 1<<63 - 1
	least    = -1 << 63

	topSum  = 4294967295
	topSize = 1048576

	poly = 3988292384
)

// stepped is the chapter's step of a sum with a bit.
func stepped(sum, bit int) int {
	sum ^= bit
	if sum%2 == 1 {
		return sum/2 ^ poly
	}
	return sum / 2
}

// bitsOf are the bits of bytes, in order.
func bitsOf(b []byte) []int {
	var list []int
	for _, part := range b {
		for place := range 8 {
			list = append(list, int(part>>place)%2)
		}
	}
	return list
}

// steppedWith is a sum, stepped with all bits of bytes.
func steppedWith(sum int, b []byte) int {
	for _, bit := range bitsOf(b) {
		sum = stepped(sum, bit)
	}
	return sum
}

// told is what the chapter's words say of a Sum.
func told(b []byte) int { return steppedWith(topSum, b) ^ topSum }

func source() *rand.Rand { return rand.New(rand.NewPCG(6, 1)) }

func someBytes(r *rand.Rand, size int) []byte {
	b := make([]byte, size)
	for place := range b {
		b[place] = byte(r.Uint32())
	}
	return b
}

func someSum(r *rand.Rand) int { return int(r.Uint32() >> r.IntN(32)) }

// sums are those of one bit, of all but one, and those beside.
func sums() []int {
	list := []int{0, topSum, topSum - 1, poly, 0xcbf43926}
	for place := range 32 {
		list = append(list, 1<<place, 1<<place-1, topSum^1<<place)
	}
	return list
}

func noSums() []int {
	return []int{-1, -2, -topSum, topSum + 1, topSum + 2, 1 << 33, 1<<40 + 5, 1 << 62, greatest - 1, greatest, least, least + 1, least + 5}
}

func noSizes() []int {
	return []int{-1, -2, -topSize, topSize + 1, topSize + 2, 1 << 21, 1 << 32, 1<<32 + 5, 1 << 60, 1<<61 + 1, 1 << 62, greatest - 1, greatest, least, least + 1}
}

func TestSumByHand(t *testing.T) { // P6.1
	for text, want := range map[string]int{
		"":                         0,
		"123456789":                3421780262,
		"a":                        0xe8b7be43,
		"b":                        0x71beeff9,
		"abc":                      0x352441c2,
		"\x00":                     0xd202ef8d,
		"\x01":                     0xa505df1b,
		"\xff":                     0xff000000,
		"\x00\x00\x00\x00":         0x2144df1c,
		"\xff\xff\xff\xff":         0xffffffff,
		strings.Repeat("\x00", 32): 0x190a55ad,
		strings.Repeat("\xff", 32): 0xff6cab0b,
		"The quick brown fox jumps over the lazy dog": 0x414fa339,
	} {
		if n := Sum([]byte(text)); n != want {
			t.Errorf("%q %x wanted %x", text, n, want)
		}
	}
	if Sum() != 0 || Sum(nil) != 0 || Sum([]byte{}, nil, []byte{}) != 0 {
		t.Error("nothing", Sum(), Sum(nil))
	}
}

func TestSumAgainstTheChaptersWords(t *testing.T) { // P6.1
	for first := range 256 {
		one := []byte{byte(first)}
		if n := Sum(one); n != told(one) {
			t.Fatalf("%v %x", one, n)
		}
		for second := range 256 {
			two := []byte{byte(first), byte(second)}
			if n := Sum(two); n != told(two) {
				t.Fatalf("%v %x", two, n)
			}
		}
	}
	r := source()
	for size := range 300 {
		b := someBytes(r, size)
		if n := Sum(b); n != told(b) {
			t.Fatalf("%v %x", b, n)
		}
	}
}

func TestSumAgainstTheLibrary(t *testing.T) { // P6.1
	r := source()
	for range 3000 {
		b := someBytes(r, r.IntN(2000))
		if n := Sum(b); n != int(crc32.ChecksumIEEE(b)) {
			t.Fatalf("%v %x", b, n)
		}
	}
	for _, size := range []int{65535, 65536, topSize, topSize + 1, 3000000} {
		b := someBytes(r, size)
		if n := Sum(b); n != int(crc32.ChecksumIEEE(b)) {
			t.Fatalf("%d bytes %x", size, n)
		}
	}
}

func TestSumWhereItComesToNought(t *testing.T) { // P6.1
	r := source()
	for range 500 {
		b := someBytes(r, r.IntN(20))
		// Four bytes that are the sum as it stands turn it to 0, from which it goes on.
		at := Sum(b) ^ topSum
		zero := append(b, byte(at), byte(at>>8), byte(at>>16), byte(at>>24))
		if n := Sum(zero); n != topSum {
			t.Fatalf("%v %x", zero, n)
		}
		for _, more := range [][]byte{{0}, {0, 0, 0}, {1}, {0, 128}, {0, 0, 7, 0, 255}, someBytes(r, 40)} {
			b := slices.Concat(zero, more)
			if n := Sum(b); n != told(b) {
				t.Fatalf("%v %x", b, n)
			}
		}
	}
}

func TestSumOfSeveralIsThatOfAll(t *testing.T) { // P6.1
	r := source()
	for range 2000 {
		b := someBytes(r, r.IntN(60))
		var list [][]byte
		for left := b; ; {
			size := r.IntN(len(left) + 1)
			list, left = append(list, left[:size:size]), left[size:]
			if len(left) == 0 {
				break
			}
			if r.IntN(4) == 0 {
				list = append(list, nil)
			}
		}
		if n := Sum(list...); n != Sum(b) {
			t.Fatalf("%v %x wanted %x", list, n, Sum(b))
		}
	}
	if Sum([]byte("a"), []byte("b")) == Sum([]byte("b"), []byte("a")) {
		t.Error("the order is lost")
	}
}

func TestSumLeavesItsBytes(t *testing.T) { // P6.1, R2
	b, c := []byte{1, 2, 3, 4, 5}, []byte{9, 8, 7}
	list := [][]byte{b[:2], c[:1], b[3:4], c}
	want := Sum(b[:2], c[:1], b[3:4])
	for range 2 {
		if n := Sum(list[:3]...); n != want || n != told([]byte{1, 2, 9, 4}) {
			t.Errorf("%x wanted %x", n, want)
		}
	}
	if !bytes.Equal(b, []byte{1, 2, 3, 4, 5}) || !bytes.Equal(c, []byte{9, 8, 7}) {
		t.Error(b, c)
	}
	for place, part := range [][]byte{b[:2], c[:1], b[3:4], c} {
		if len(list[place]) != len(part) || &list[place][0] != &part[0] {
			t.Error(place, list[place])
		}
	}
}

func TestShiftByHand(t *testing.T) { // P6.2
	for _, c := range []struct{ sum, bytes, want int }{
		{0, 0, 0},
		{0, 1, 0},
		{0, topSize, 0},
		{1, 0, 1},
		{1, 1, 0x77073096},
		{2, 1, 0xee0e612c},
		{128, 1, poly},
		{255, 1, 0x2d02ef8d},
		{256, 1, 1},
		{0x8000, 2, poly},
		{0x80000000, 0, 0x80000000},
		{0x80000000, 1, 0x800000},
		{0x80000000, 3, 0x80},
		{0x80000000, 4, poly},
		{topSum, 0, topSum},
		{topSum, 1, 0x2dfd1072},
		{0xcbf43926, 0, 0xcbf43926},
	} {
		if n, e := Shift(c.sum, c.bytes); n != c.want || e != api.OK {
			t.Errorf("%x %d: %x %d wanted %x", c.sum, c.bytes, n, int(e), c.want)
		}
	}
}

func TestShiftOfWhatMayNotBe(t *testing.T) { // P6.2
	for _, sum := range append(noSums(), 0, 1, topSum) {
		for _, size := range append(noSizes(), 0, 1, topSize) {
			if sum >= 0 && sum <= topSum && size >= 0 && size <= topSize {
				continue
			}
			if n, e := Shift(sum, size); n != 0 || e != api.ErrArg {
				t.Error(sum, size, n, int(e))
			}
		}
	}
}

func TestShiftAgainstTheChaptersWords(t *testing.T) { // P6.2
	r := source()
	list := sums()
	for range 2000 {
		list = append(list, someSum(r))
	}
	for _, sum := range list {
		want := sum
		for size := range 40 {
			if n, e := Shift(sum, size); n != want || e != api.OK {
				t.Fatalf("%x %d: %x %d wanted %x", sum, size, n, int(e), want)
			}
			want = steppedWith(want, []byte{0})
		}
	}
}

func TestShiftOverMany(t *testing.T) { // P6.2
	for _, size := range []int{255, 256, 1000, 65535, 65536, 65537, topSize - 1, topSize} {
		noughts := make([]byte, size)
		for _, sum := range []int{1, 0x80000000, topSum, 0xcbf43926} {
			want := steppedWith(sum, noughts)
			if n, e := Shift(sum, size); n != want || e != api.OK {
				t.Fatalf("%x %d: %x %d wanted %x", sum, size, n, int(e), want)
			}
		}
	}
}

func TestShiftsComeOneBehindTheOther(t *testing.T) { // P6.2
	r := source()
	for range 500 {
		sum, size, more := someSum(r), r.IntN(3000), r.IntN(3000)
		once, e := Shift(sum, size)
		twice, f := Shift(once, more)
		if n, g := Shift(sum, size+more); n != twice || e != api.OK || f != api.OK || g != api.OK {
			t.Fatalf("%x %d %d: %x wanted %x", sum, size, more, n, twice)
		}
	}
}

func TestTurnByHand(t *testing.T) { // P6.3
	for _, c := range []struct{ bytes, at, row, want int }{
		{1, 7, 1, poly},
		{1, 0, 128, poly},
		{1, 6, 2, poly},
		{1, 4, 8, poly},
		{1, 3, 16, poly},
		{2, 15, 1, poly},
		{topSize, topSize*8 - 1, 1, poly},
		{1, 0, 1, 0x77073096},
		{1, 0, 255, 0x2d02ef8d},
		{1, 0, 3, 0xe8b7be43 ^ 0x71beeff9},
		{2, 8, 1, 0x77073096},
		{4, 0, 0x80000000, poly},
		{4, 31, 1, poly},
		{5, 8, 0x80000000, poly},
	} {
		if n, e := Turn(c.bytes, c.at, c.row); n != c.want || e != api.OK {
			t.Errorf("%d %d %x: %x %d wanted %x", c.bytes, c.at, c.row, n, int(e), c.want)
		}
	}
}

// turned are bytes of which a row of bits is turned; false, if one of these is not there.
func turned(b []byte, at, row int) ([]byte, bool) {
	other := slices.Clone(b)
	for place := range 63 {
		if row>>place%2 == 0 {
			continue
		}
		if at > greatest-place || (at+place)/8 >= len(b) {
			return nil, false
		}
		other[(at+place)/8] ^= 1 << ((at + place) % 8)
	}
	return other, true
}

// checkTurn holds Turn against the Sums of bytes, and of these with the bits turned.
func checkTurn(t *testing.T, b []byte, at, row int) {
	t.Helper()
	n, e := Turn(len(b), at, row)
	other, there := turned(b, at, row)
	if !there {
		if n != 0 || e != api.ErrArg {
			t.Fatalf("%d %d %x: %x %d", len(b), at, row, n, int(e))
		}
		return
	}
	if want := Sum(b) ^ Sum(other); n != want || e != api.OK {
		t.Fatalf("%d %d %x: %x %d wanted %x", len(b), at, row, n, int(e), want)
	}
}

func TestTurnOfShortRows(t *testing.T) { // P6.3
	r := source()
	for size := range 12 {
		for at := range 8*size + 3 {
			b := someBytes(r, size)
			for _, row := range sums() {
				if row != 0 {
					checkTurn(t, b, at, row)
				}
			}
			for range 40 {
				checkTurn(t, b, at, 1+someSum(r)%topSum)
			}
			for row := 1; row < 64; row++ {
				checkTurn(t, b, at, row)
			}
		}
	}
}

func TestTurnOfLongRows(t *testing.T) { // P6.3
	r := source()
	for range 3000 {
		size := 1 + r.IntN(600)
		checkTurn(t, someBytes(r, size), r.IntN(8*size), 1+someSum(r)%topSum)
	}
	for _, size := range []int{65536, topSize - 1, topSize} {
		b := someBytes(r, size)
		for _, at := range []int{0, 1, 7, 8*size - 33, 8*size - 32, 8*size - 31, 8*size - 8, 8*size - 1, 8 * size} {
			for _, row := range []int{1, 3, 128, 0x80000000, topSum} {
				checkTurn(t, b, at, row)
			}
		}
	}
}

func TestTurnHangsOnNoBytes(t *testing.T) { // P6.3
	r := source()
	for range 300 {
		size := 4 + r.IntN(40)
		at, row := r.IntN(8*size-31), 1+someSum(r)%topSum
		checkTurn(t, make([]byte, size), at, row)
		checkTurn(t, bytes.Repeat([]byte{255}, size), at, row)
		checkTurn(t, someBytes(r, size), at, row)
	}
}

func TestTurnOfWhatMayNotBe(t *testing.T) { // P6.3
	rows := append(noSums(), 0)
	for _, size := range append(noSizes(), 0, 1, 100, topSize) {
		for _, at := range []int{0, 1, 7, -1, -8, -32, 8 * 100, topSize, 8 * topSize, 1 << 32, greatest - 31, greatest, least, least + 1} {
			for _, row := range append(rows, 1, 8, 128, topSum) {
				right := slices.Contains([]int{0, 1, 100, topSize}, size) && at >= 0 && !slices.Contains(rows, row)
				if right && at <= 8*size-bits.Len(uint(row)) {
					continue
				}
				if n, e := Turn(size, at, row); n != 0 || e != api.ErrArg {
					t.Error(size, at, row, n, int(e))
				}
			}
		}
	}
}

func TestTurnAtTheEndOfTheBytes(t *testing.T) { // P6.3
	for _, size := range []int{1, 2, 3, 4, 5, 6, 100, topSize - 1, topSize} {
		for _, row := range []int{1, 2, 3, 5, 128, 129, 255, 256, 0x8000, 0x10000, 0x80000000, 0x80000001, topSum} {
			last := 8*size - bits.Len(uint(row))
			for at := last - 9; at < last+34; at++ {
				n, e := Turn(size, at, row)
				if right := at >= 0 && at <= last; right != (e == api.OK) || right != (n != 0) || !right && e != api.ErrArg {
					t.Fatalf("%d %d %x: %x %d", size, at, row, n, int(e))
				}
			}
		}
	}
}

func TestSumOfTwoIsPutTogether(t *testing.T) { // P6.4
	r := source()
	for range 2000 {
		first, second := someBytes(r, r.IntN(80)), someBytes(r, r.IntN(80))
		n, e := Shift(Sum(first), len(second))
		if want := Sum(first, second); n^Sum(second) != want || e != api.OK {
			t.Fatalf("%v %v %x %d wanted %x", first, second, n^Sum(second), int(e), want)
		}
	}
	first, second := []byte("meridian"), someBytes(r, topSize)
	if n, e := Shift(Sum(first), topSize); n^Sum(second) != int(crc32.ChecksumIEEE(slices.Concat(first, second))) || e != api.OK {
		t.Errorf("%x %d", n, int(e))
	}
}

func TestTurnedBitsAreSeen(t *testing.T) { // P6.4
	r := source()
	for range 20000 {
		size := 4 + r.IntN(60)
		at, row := r.IntN(8*size-31), 1+someSum(r)%topSum
		b := someBytes(r, size)
		other, _ := turned(b, at, row)
		if n, e := Turn(size, at, row); n == 0 || e != api.OK || Sum(b) == Sum(other) {
			t.Fatalf("%d %d %x: %x %d", size, at, row, n, int(e))
		}
	}
	// A row of 33 bits could be the divisor, and would be lost; these are as near to it as 32 can be.
	for at := range 200 {
		for _, row := range []int{poly, poly >> 5, topSum ^ poly, 0xdb710641, 0x04c11db7, 0x82608edb} {
			if n, e := Turn(29, at, row); n == 0 || e != api.OK {
				t.Errorf("%d %x: %x %d", at, row, n, int(e))
			}
		}
	}
}

func TestTurnsArePutTogether(t *testing.T) { // P6.3, P6.4
	r := source()
	for range 3000 {
		size := 8 + r.IntN(40)
		at, row, other := r.IntN(8*size-31), 1+someSum(r)%topSum, 1+someSum(r)%topSum
		if row == other {
			continue
		}
		a, e := Turn(size, at, row)
		b, f := Turn(size, at, other)
		if n, g := Turn(size, at, row^other); n != a^b || e != api.OK || f != api.OK || g != api.OK {
			t.Fatalf("%d %d %x %x: %x wanted %x", size, at, row, other, n, a^b)
		}
	}
}
