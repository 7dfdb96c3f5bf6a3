package wire

import (
	"bytes"
	"encoding/binary"
	"math/big"
	"math/rand/v2"
	"slices"
	"testing"

	"meridian/api"
)

const least = -1 << 63

// edges are the numbers at which one more piece, or byte, is needed, with those beside them, of either sign.
func edges() []int {
	list := []int{0, most, most - 1, least, least + 1}
	for bit := range 63 {
		for beside := -2; beside <= 2; beside++ {
			list = append(list, 1<<bit+beside, -(1<<bit)+beside)
		}
	}
	return list
}

// many are numbers of all lengths.
func many() []int {
	list := edges()
	r := rand.New(rand.NewPCG(5, 1))
	for range 20000 {
		list = append(list, int(r.Uint64()>>r.IntN(64)), -int(r.Uint64()>>r.IntN(64)))
	}
	return list
}

func TestUintByHand(t *testing.T) { // P5.1
	for _, c := range []struct {
		n    int
		want []byte
	}{
		{0, []byte{0}},
		{1, []byte{1}},
		{127, []byte{127}},
		{128, []byte{128, 1}},
		{129, []byte{129, 1}},
		{255, []byte{255, 1}},
		{256, []byte{128, 2}},
		{300, []byte{172, 2}},
		{16383, []byte{255, 127}},
		{16384, []byte{128, 128, 1}},
		{1<<56 - 1, []byte{255, 255, 255, 255, 255, 255, 255, 127}},
		{1 << 56, []byte{128, 128, 128, 128, 128, 128, 128, 128, 1}},
		{most, []byte{255, 255, 255, 255, 255, 255, 255, 255, 127}},
		{-1, nil}, {-2, nil}, {-128, nil}, {least + 1, nil}, {least, nil},
	} {
		if b := Uint(c.n); !bytes.Equal(b, c.want) {
			t.Error(c.n, b, "wanted", c.want)
		}
	}
}

func TestIntByHand(t *testing.T) { // P5.1
	for _, c := range []struct {
		n    int
		want []byte
	}{
		{0, []byte{0}},
		{-1, []byte{1}},
		{1, []byte{2}},
		{-2, []byte{3}},
		{2, []byte{4}},
		{63, []byte{126}},
		{-64, []byte{127}},
		{64, []byte{128, 1}},
		{-65, []byte{129, 1}},
		{300, []byte{216, 4}},
		{-300, []byte{215, 4}},
		{8191, []byte{254, 127}},
		{-8192, []byte{255, 127}},
		{8192, []byte{128, 128, 1}},
		{1 << 62, []byte{128, 128, 128, 128, 128, 128, 128, 128, 128, 1}},
		{1<<62 - 1, []byte{254, 255, 255, 255, 255, 255, 255, 255, 127}},
		{-1 << 62, []byte{255, 255, 255, 255, 255, 255, 255, 255, 127}},
		{most, []byte{254, 255, 255, 255, 255, 255, 255, 255, 255, 1}},
		{least, []byte{255, 255, 255, 255, 255, 255, 255, 255, 255, 1}},
	} {
		if b := Int(c.n); !bytes.Equal(b, c.want) {
			t.Error(c.n, b, "wanted", c.want)
		}
	}
}

func TestFixedByHand(t *testing.T) { // P5.1
	for _, c := range []struct {
		n, size int
		want    []byte
	}{
		{258, 4, []byte{2, 1, 0, 0}},
		{258, 2, []byte{2, 1}},
		{258, 1, nil},
		{0, 1, []byte{0}},
		{0, 3, []byte{0, 0, 0}},
		{0, 8, []byte{0, 0, 0, 0, 0, 0, 0, 0}},
		{255, 1, []byte{255}},
		{256, 1, nil},
		{256, 2, []byte{0, 1}},
		{0x04034b50, 4, []byte{80, 75, 3, 4}},
		{1<<32 - 1, 4, []byte{255, 255, 255, 255}},
		{1 << 32, 4, nil},
		{1 << 32, 5, []byte{0, 0, 0, 0, 1}},
		{0x0102030405060708, 8, []byte{8, 7, 6, 5, 4, 3, 2, 1}},
		{most, 8, []byte{255, 255, 255, 255, 255, 255, 255, 127}},
		{most, 7, nil},
		{1<<56 - 1, 7, []byte{255, 255, 255, 255, 255, 255, 255}},
	} {
		if b := Fixed(c.n, c.size); !bytes.Equal(b, c.want) {
			t.Error(c.n, c.size, b, "wanted", c.want)
		}
	}
}

func TestFixedOfWhatMayNotBe(t *testing.T) { // P5.1
	for _, size := range []int{0, -1, -8, 9, 10, 16, 64, 1 << 31, 1 << 32, 1 << 61, 1<<61 + 1, most, least, least + 1} {
		for _, n := range []int{0, 1, 255, most, -1, least} {
			if b := Fixed(n, size); len(b) != 0 {
				t.Error(n, size, b)
			}
		}
	}
	for size := 1; size <= 8; size++ {
		for _, n := range []int{-1, -2, -255, -256, -1 << 32, least + 1, least} {
			if b := Fixed(n, size); len(b) != 0 {
				t.Error(n, size, b)
			}
		}
	}
	for size := 1; size <= 7; size++ {
		if b := Fixed(1<<(8*size)-1, size); !bytes.Equal(b, bytes.Repeat([]byte{255}, size)) {
			t.Error(size, b)
		}
		for _, n := range []int{1 << (8 * size), 1<<(8*size) + 1, 1 << 62, most} {
			if b := Fixed(n, size); len(b) != 0 {
				t.Error(n, size, b)
			}
		}
	}
}

func TestWritingAgainstTheLibrary(t *testing.T) { // P5.1
	for _, n := range many() {
		if b := Int(n); !bytes.Equal(b, binary.AppendVarint(nil, int64(n))) {
			t.Fatal(n, b)
		}
		if n < 0 {
			if b := Uint(n); len(b) != 0 {
				t.Fatal(n, b)
			}
			continue
		}
		if b := Uint(n); !bytes.Equal(b, binary.AppendUvarint(nil, uint64(n))) {
			t.Fatal(n, b)
		}
		whole := binary.LittleEndian.AppendUint64(nil, uint64(n))
		for size := 1; size <= 8; size++ {
			want := whole[:size]
			if !bytes.Equal(whole[size:], make([]byte, 8-size)) {
				want = nil
			}
			if b := Fixed(n, size); !bytes.Equal(b, want) {
				t.Fatal(n, size, b, "wanted", want)
			}
		}
	}
}

func TestWhatIsWrittenIsTheCallers(t *testing.T) { // P5.1, R2
	for _, write := range []func() []byte{
		func() []byte { return Uint(300) },
		func() []byte { return Int(-300) },
		func() []byte { return Fixed(300, 3) },
	} {
		first, kept := write(), write()
		for place := range first {
			first[place] = 77
		}
		if second := write(); !bytes.Equal(second, kept) {
			t.Error(second, kept)
		}
	}
}

// reads are the calls that read a number.
func reads() map[string]func(c *Cursor) int {
	list := map[string]func(c *Cursor) int{"Uint": (*Cursor).Uint, "Int": (*Cursor).Int}
	for size := 1; size <= 8; size++ {
		list["Fixed"+string(rune('0'+size))] = func(c *Cursor) int { return c.Fixed(size) }
	}
	return list
}

// check holds an answer and the cursor behind it against what they have to be.
func check(t *testing.T, name string, b []byte, c *Cursor, got, want, at int, e api.Errno) {
	t.Helper()
	if got != want || c.At() != at || c.Left() != len(b)-at || c.Err() != e {
		t.Fatal(name, b, got, c.At(), c.Left(), int(c.Err()), "wanted", want, at, len(b)-at, int(e))
	}
}

func TestReadByHand(t *testing.T) { // P5.2
	full := []byte{255, 255, 255, 255, 255, 255, 255, 255, 255}
	noughts := []byte{128, 128, 128, 128, 128, 128, 128, 128, 128}
	with := func(b []byte, more ...byte) []byte { return append(slices.Clone(b), more...) }
	for _, c := range []struct {
		name string
		b    []byte
		want int
		at   int
		e    api.Errno
	}{
		{"Uint", []byte{0}, 0, 1, api.OK},
		{"Uint", []byte{127, 5}, 127, 1, api.OK},
		{"Uint", []byte{172, 2, 9}, 300, 2, api.OK},
		{"Uint", full[:8], 0, 0, api.ErrEnd},
		{"Uint", with(full[:8], 127), most, 9, api.OK},
		{"Uint", with(noughts[:8], 1), 1 << 56, 9, api.OK},
		{"Uint", with(full, 1), 0, 0, api.ErrOver},
		{"Uint", with(noughts, 1), 0, 0, api.ErrOver},
		{"Uint", with(noughts, 1, 0), 0, 0, api.ErrOver},
		{"Uint", with(noughts, 2), 0, 0, api.ErrForm},
		{"Uint", with(noughts, 3), 0, 0, api.ErrForm},
		{"Uint", with(noughts, 64), 0, 0, api.ErrForm},
		{"Uint", with(noughts, 127), 0, 0, api.ErrForm},
		{"Uint", with(noughts, 0), 0, 0, api.ErrForm},
		{"Uint", with(full, 0), 0, 0, api.ErrForm},
		{"Uint", noughts, 0, 0, api.ErrEnd},
		{"Uint", full, 0, 0, api.ErrEnd},
		{"Uint", with(noughts, 128), 0, 0, api.ErrForm},
		{"Uint", with(full, 255), 0, 0, api.ErrForm},
		{"Uint", with(full, 129), 0, 0, api.ErrForm},
		{"Uint", with(full, 255, 0), 0, 0, api.ErrForm},
		{"Uint", with(full, 128, 1), 0, 0, api.ErrForm},
		{"Uint", nil, 0, 0, api.ErrEnd},
		{"Uint", []byte{128}, 0, 0, api.ErrEnd},
		{"Uint", []byte{128, 0}, 0, 0, api.ErrForm},
		{"Uint", []byte{255, 0}, 0, 0, api.ErrForm},
		{"Uint", []byte{255, 128, 0}, 0, 0, api.ErrForm},
		{"Uint", []byte{128, 128, 1}, 16384, 3, api.OK},
		{"Int", []byte{0}, 0, 1, api.OK},
		{"Int", []byte{1}, -1, 1, api.OK},
		{"Int", []byte{3, 3}, -2, 1, api.OK},
		{"Int", []byte{216, 4}, 300, 2, api.OK},
		{"Int", with(full, 1), least, 10, api.OK},
		{"Int", with([]byte{254}, with(full[1:], 1)...), most, 10, api.OK},
		{"Int", with(noughts, 1), 1 << 62, 10, api.OK},
		{"Int", with(full[:8], 127), -1 << 62, 9, api.OK},
		{"Int", with(full, 2), 0, 0, api.ErrForm},
		{"Int", with(noughts, 2), 0, 0, api.ErrForm},
		{"Int", with(noughts, 0), 0, 0, api.ErrForm},
		{"Int", with(noughts, 128), 0, 0, api.ErrForm},
		{"Int", with(noughts, 128, 1), 0, 0, api.ErrForm},
		{"Int", noughts, 0, 0, api.ErrEnd},
		{"Int", nil, 0, 0, api.ErrEnd},
		{"Int", []byte{129, 0}, 0, 0, api.ErrForm},
		{"Fixed1", []byte{255, 1}, 255, 1, api.OK},
		{"Fixed1", nil, 0, 0, api.ErrEnd},
		{"Fixed2", []byte{2, 1, 0}, 258, 2, api.OK},
		{"Fixed2", []byte{2}, 0, 0, api.ErrEnd},
		{"Fixed4", []byte{2, 1, 0, 0}, 258, 4, api.OK},
		{"Fixed4", []byte{255, 255, 255, 255}, 1<<32 - 1, 4, api.OK},
		{"Fixed4", []byte{2, 1, 0}, 0, 0, api.ErrEnd},
		{"Fixed7", full, 1<<56 - 1, 7, api.OK},
		{"Fixed8", []byte{8, 7, 6, 5, 4, 3, 2, 1}, 0x0102030405060708, 8, api.OK},
		{"Fixed8", []byte{255, 255, 255, 255, 255, 255, 255, 127}, most, 8, api.OK},
		{"Fixed8", []byte{0, 0, 0, 0, 0, 0, 0, 128}, 0, 0, api.ErrOver},
		{"Fixed8", full, 0, 0, api.ErrOver},
		{"Fixed8", full[:7], 0, 0, api.ErrEnd},
	} {
		x := New(c.b)
		check(t, c.name, c.b, x, reads()[c.name](x), c.want, c.at, c.e)
	}
}

// told is what the chapter says of pieces: the number, how many they are, and Uint's error, with ErrOver left to the caller.
func told(b []byte) (*big.Int, int, api.Errno) {
	end := slices.IndexFunc(b[:min(len(b), 10)], func(piece byte) bool { return piece < 128 })
	if end < 0 && len(b) >= 10 {
		return nil, 0, api.ErrForm
	}
	if end < 0 {
		return nil, 0, api.ErrEnd
	}
	n := new(big.Int)
	for place := end; place >= 0; place-- {
		n.Add(n.Lsh(n, 7), big.NewInt(int64(b[place]&127)))
	}
	if end > 0 && b[end] == 0 || n.BitLen() > 64 {
		return nil, 0, api.ErrForm
	}
	return n, end + 1, api.OK
}

// holdAgainstWords holds Uint and Int of bytes against what the chapter says.
func holdAgainstWords(t *testing.T, b []byte) {
	t.Helper()
	kept := slices.Clone(b)
	n, size, e := told(b)
	x, y := New(b), New(b)
	if e != api.OK {
		check(t, "Uint", b, x, x.Uint(), 0, 0, e)
		check(t, "Int", b, y, y.Int(), 0, 0, e)
		return
	}
	if n.IsInt64() {
		check(t, "Uint", b, x, x.Uint(), int(n.Int64()), size, api.OK)
		if !bytes.Equal(Uint(int(n.Int64())), b[:size]) {
			t.Fatal(b, n)
		}
	} else {
		check(t, "Uint", b, x, x.Uint(), 0, 0, api.ErrOver)
	}
	back := new(big.Int).Rsh(n, 1)
	if n.Bit(0) == 1 {
		back.Neg(back.Add(back, big.NewInt(1)))
	}
	check(t, "Int", b, y, y.Int(), int(back.Int64()), size, api.OK)
	if !bytes.Equal(Int(int(back.Int64())), b[:size]) {
		t.Fatal(b, back)
	}
	if !bytes.Equal(b, kept) {
		t.Fatal("written into", b, kept)
	}
}

func TestPiecesAgainstWords(t *testing.T) { // P5.2, P5.3
	few := []byte{0, 1, 2, 63, 127, 128, 129, 255}
	for size := range 5 {
		all(few, size, func(b []byte) { holdAgainstWords(t, b) })
	}
	// Ten pieces are where numbers of 64 bits end.
	for _, piece := range []byte{128, 129, 255} {
		for size := 6; size <= 11; size++ {
			head := bytes.Repeat([]byte{piece}, size)
			for tail := range 4 {
				all(few, tail, func(b []byte) { holdAgainstWords(t, slices.Concat(head, b)) })
			}
		}
	}
	for a := range 256 {
		holdAgainstWords(t, []byte{byte(a)})
		holdAgainstWords(t, []byte{128, 128, 128, 128, 128, 128, 128, 128, 128, byte(a)})
		for b := range 256 {
			holdAgainstWords(t, []byte{byte(a), byte(b)})
		}
	}
	r := rand.New(rand.NewPCG(5, 2))
	for range 100000 {
		b := make([]byte, r.IntN(13))
		for place := range b {
			b[place] = byte(r.Uint32())
			if r.IntN(6) > 0 {
				b[place] |= 128
			}
		}
		holdAgainstWords(t, b)
	}
}

// all hands out all rows of so many of the pieces.
func all(pieces []byte, size int, do func(b []byte)) {
	row := make([]byte, 0, size)
	var fill func()
	fill = func() {
		if len(row) == size {
			do(row)
			return
		}
		for _, piece := range pieces {
			row = append(row, piece)
			fill()
			row = row[:len(row)-1]
		}
	}
	fill()
}

func TestFixedAgainstTheLibrary(t *testing.T) { // P5.2, P5.3
	r := rand.New(rand.NewPCG(5, 3))
	for range 50000 {
		b := make([]byte, r.IntN(11))
		for place := range b {
			b[place] = byte(r.Uint32())
		}
		for size := 1; size <= 8; size++ {
			x := New(b)
			n := x.Fixed(size)
			if size > len(b) {
				check(t, "Fixed", b, x, n, 0, 0, api.ErrEnd)
				continue
			}
			whole := make([]byte, 8)
			copy(whole, b[:size])
			want := binary.LittleEndian.Uint64(whole)
			if want > most {
				check(t, "Fixed", b, x, n, 0, 0, api.ErrOver)
				continue
			}
			check(t, "Fixed", b, x, n, int(want), size, api.OK)
			if !bytes.Equal(Fixed(n, size), b[:size]) {
				t.Fatal(b, n, size)
			}
		}
	}
}

func TestArgumentsThatMayNotBe(t *testing.T) { // P5.2
	for _, b := range [][]byte{nil, {}, {1}, {1, 2, 3}, make([]byte, 20), bytes.Repeat([]byte{255}, 20)} {
		for _, size := range []int{0, -1, -8, 9, 10, 20, 21, 1 << 32, 1<<32 + 1, 1<<61 + 1, most, least} {
			x := New(b)
			check(t, "Fixed", b, x, x.Fixed(size), 0, 0, api.ErrArg)
		}
		for _, n := range []int{-1, -2, -20, -1 << 32, least + 1, least} {
			x := New(b)
			check(t, "Bytes", b, x, len(x.Bytes(n)), 0, 0, api.ErrArg)
		}
		for _, n := range []int{len(b) + 1, len(b) + 2, 1 << 32, most - 1, most} {
			x := New(b)
			check(t, "Bytes", b, x, len(x.Bytes(n)), 0, 0, api.ErrEnd)
			x = New(append([]byte{5}, b...))
			x.Uint()
			check(t, "Bytes", append([]byte{5}, b...), x, len(x.Bytes(n)), 0, 1, api.ErrEnd)
		}
	}
}

func TestTheFirstErrorStays(t *testing.T) { // P5.2
	b := []byte{1, 2, 3, 128, 0, 4, 5, 6, 7, 8, 9, 10, 200}
	for want, fail := range map[api.Errno]func(c *Cursor){
		api.ErrArg:  func(c *Cursor) { c.Fixed(9) },
		api.ErrEnd:  func(c *Cursor) { c.Bytes(11) },
		api.ErrForm: func(c *Cursor) { c.Uint() },
		api.ErrOver: func(c *Cursor) { c.Fixed(8) },
	} {
		mine := slices.Clone(b)
		if want == api.ErrOver {
			mine[10] = 255
		}
		x := New(mine)
		if got := x.Bytes(3); !bytes.Equal(got, []byte{1, 2, 3}) {
			t.Fatal(got)
		}
		fail(x)
		for range 2 {
			check(t, "failed", mine, x, 0, 0, 3, want)
			for name, read := range reads() {
				check(t, name, mine, x, read(x), 0, 3, want)
			}
			for _, n := range []int{0, 9, -1, most, least} {
				check(t, "Fixed", mine, x, x.Fixed(n), 0, 3, want)
				check(t, "Bytes", mine, x, len(x.Bytes(n)), 0, 3, want)
			}
			for _, n := range []int{1, 2, 10, 11} {
				check(t, "Bytes", mine, x, len(x.Bytes(n)), 0, 3, want)
			}
		}
	}
}

func TestWhereACursorIs(t *testing.T) { // P5.2
	b := slices.Concat(Uint(300), Int(-1), Fixed(7, 3), []byte("abcd"), Uint(0))
	x := New(b)
	check(t, "New", b, x, 0, 0, 0, api.OK)
	check(t, "Uint", b, x, x.Uint(), 300, 2, api.OK)
	check(t, "Int", b, x, x.Int(), -1, 3, api.OK)
	check(t, "Fixed", b, x, x.Fixed(3), 7, 6, api.OK)
	check(t, "Bytes", b, x, len(x.Bytes(0)), 0, 6, api.OK)
	check(t, "Bytes", b, x, len(x.Bytes(4)), 4, 10, api.OK)
	check(t, "Uint", b, x, x.Uint(), 0, 11, api.OK)
	check(t, "Bytes", b, x, len(x.Bytes(0)), 0, 11, api.OK)
	check(t, "Uint", b, x, x.Uint(), 0, 11, api.ErrEnd)
}

func TestBytesAreTheOwnersOwn(t *testing.T) { // P5.2, R2
	b := []byte{1, 2, 3, 4, 5}
	x := New(b)
	first, none, second := x.Bytes(2), x.Bytes(0), x.Bytes(3)
	if !bytes.Equal(first, []byte{1, 2}) || len(none) != 0 || !bytes.Equal(second, []byte{3, 4, 5}) || x.Err() != api.OK {
		t.Fatal(first, none, second, int(x.Err()))
	}
	if &first[0] != &b[0] || &second[0] != &b[2] {
		t.Error("copied")
	}
	if cap(first) != 2 || cap(none) != 0 || cap(second) != 3 {
		t.Error(cap(first), cap(none), cap(second))
	}
	_, _, _ = append(first, 77), append(none, 77), append(second, 77)
	if !bytes.Equal(b, []byte{1, 2, 3, 4, 5}) {
		t.Error(b)
	}
}

func TestWhatStandsBehindTheLengthIsNotRead(t *testing.T) { // P5.2, R2
	whole := []byte{130, 1, 3, 4, 5, 6, 7, 0, 9, 10}
	for size := range whole {
		b := whole[:size]
		x := New(b)
		check(t, "Bytes", b, x, len(x.Bytes(size+1)), 0, 0, api.ErrEnd)
		if size < 8 {
			x = New(b)
			check(t, "Fixed", b, x, x.Fixed(size+1), 0, 0, api.ErrEnd)
		}
		x = New(b)
		last := x.Bytes(size)
		_ = append(last, 77)
	}
	x := New(whole[:1])
	check(t, "Uint", whole[:1], x, x.Uint(), 0, 0, api.ErrEnd)
	x = New(whole[:1])
	check(t, "Int", whole[:1], x, x.Int(), 0, 0, api.ErrEnd)
	if !bytes.Equal(whole, []byte{130, 1, 3, 4, 5, 6, 7, 0, 9, 10}) {
		t.Error(whole)
	}
}

func TestNilCursor(t *testing.T) { // P5.2, R2
	var none *Cursor
	for range 2 {
		for name, read := range reads() {
			if n := read(none); n != 0 {
				t.Error(name, n)
			}
		}
		for _, n := range []int{0, 1, -1, 9, most, least} {
			if none.Fixed(n) != 0 || len(none.Bytes(n)) != 0 {
				t.Error(n)
			}
		}
		if none.At() != 0 || none.Left() != 0 || none.Err() != api.ErrNil {
			t.Error(none.At(), none.Left(), int(none.Err()))
		}
	}
	if x := New(nil); x == nil || x.Err() != api.OK || x.At() != 0 || x.Left() != 0 || len(x.Bytes(0)) != 0 || x.Err() != api.OK {
		t.Error("a cursor of nothing")
	}
}

func TestCursorsOfTheSameBytes(t *testing.T) { // P5.2, R3
	b := slices.Concat(Uint(300), Uint(5))
	x, y := New(b), New(b)
	check(t, "Uint", b, x, x.Uint(), 300, 2, api.OK)
	check(t, "Bytes", b, x, len(x.Bytes(9)), 0, 2, api.ErrEnd)
	check(t, "New", b, y, 0, 0, 0, api.OK)
	check(t, "Uint", b, y, y.Uint(), 300, 2, api.OK)
	check(t, "Uint", b, y, y.Uint(), 5, 3, api.OK)
}

func TestBeginningsAreTooShort(t *testing.T) { // P5.2
	for _, n := range edges() {
		for name, b := range map[string][]byte{"Int": Int(n), "Uint": Uint(n), "Fixed8": Fixed(n, 8)} {
			for size := range b {
				x := New(b[:size])
				check(t, name, b[:size], x, reads()[name](x), 0, 0, api.ErrEnd)
			}
		}
	}
}

// thing is a number, or bytes, and the way in which it is written.
type thing struct {
	n, size int
	b       []byte
	kind    string
}

func (w thing) write() []byte {
	switch w.kind {
	case "Uint":
		return Uint(w.n)
	case "Int":
		return Int(w.n)
	case "Fixed":
		return Fixed(w.n, w.size)
	}
	return w.b
}

func (w thing) isNextOf(c *Cursor) bool {
	switch w.kind {
	case "Uint":
		return c.Uint() == w.n
	case "Int":
		return c.Int() == w.n
	case "Fixed":
		return c.Fixed(w.size) == w.n
	}
	return bytes.Equal(c.Bytes(len(w.b)), w.b)
}

func TestWhatWasWrittenIsRead(t *testing.T) { // P5.3
	r := rand.New(rand.NewPCG(5, 4))
	for range 3000 {
		var things []thing
		var b []byte
		for range r.IntN(20) {
			size := 1 + r.IntN(8)
			w := thing{n: int(r.Uint64() >> (1 + r.IntN(63))), size: size, kind: []string{"Uint", "Int", "Fixed", "Bytes"}[r.IntN(4)]}
			switch w.kind {
			case "Int":
				w.n *= 1 - 2*r.IntN(2)
			case "Fixed":
				w.n &= 1<<min(63, 8*size) - 1
			case "Bytes":
				w.b = bytes.Repeat([]byte{byte(w.n)}, size-1)
			}
			things, b = append(things, w), append(b, w.write()...)
		}
		kept, at, x := slices.Clone(b), 0, New(b)
		for _, w := range things {
			at += len(w.write())
			if !w.isNextOf(x) || x.At() != at || x.Left() != len(b)-at || x.Err() != api.OK {
				t.Fatal(w, x.At(), int(x.Err()), "wanted", at)
			}
		}
		if x.Left() != 0 || !bytes.Equal(b, kept) {
			t.Fatal(b, kept, x.Left())
		}
	}
}

func TestEveryNumberIsReadAsWritten(t *testing.T) { // P5.3
	for _, n := range many() {
		x := New(Int(n))
		if got := x.Int(); got != n || x.Left() != 0 || x.Err() != api.OK {
			t.Fatal(n, got, int(x.Err()))
		}
		if n < 0 {
			continue
		}
		x = New(slices.Concat(Uint(n), Fixed(n, 8)))
		if a, b := x.Uint(), x.Fixed(8); a != n || b != n || x.Left() != 0 || x.Err() != api.OK {
			t.Fatal(n, a, b, int(x.Err()))
		}
	}
}
