package num

import (
	"math/big"
	"slices"
	"testing"

	"meridian/api"
)

// edges are numbers at which sums, products and quotients begin not to fit, and their neighbours.
func edges() []int {
	l := []int{3037000499, 3037000500, 4294967295 * 2147483648, 6148914691236517205, 86400, 10, 7}
	for i := range 63 {
		p := 1 << i
		l = append(l, p-1, p, p+1)
	}
	l = append(l, most-1, most)
	for _, n := range slices.Clone(l) {
		l = append(l, -n)
	}
	l = append(l, least, least+1, least/2-1)
	slices.Sort(l)
	return slices.Compact(l)
}

// scattered are numbers of all lengths that hang on nothing but how many there are.
func scattered(many int) []int {
	l := make([]int, 0, many)
	state := uint64(88172645463325252)
	for range many {
		state ^= state << 13
		state ^= state >> 7
		state ^= state << 17
		l = append(l, int(state)>>(state%64))
	}
	return l
}

// pairs are all pairs of edges, and some that are scattered.
func pairs(yield func(a, b int) bool) {
	l := edges()
	for _, a := range l {
		for _, b := range l {
			if !yield(a, b) {
				return
			}
		}
	}
	for p := range slices.Chunk(scattered(20000), 2) {
		if !yield(p[0], p[1]) {
			return
		}
	}
}

func wide(n int) *big.Int { return big.NewInt(int64(n)) }

// fitting is what has to be answered of a number that may not fit.
func fitting(n *big.Int) (int, api.Errno) {
	if !n.IsInt64() {
		return 0, api.ErrOver
	}
	return int(n.Int64()), api.OK
}

type answer struct {
	n int
	e api.Errno
}

func told(n int, e api.Errno) answer { return answer{n, e} }

func TestSumsByHand(t *testing.T) { // P1.1
	over := answer{0, api.ErrOver}
	for _, c := range []struct {
		what      string
		got, want answer
	}{
		{"3 + 4", told(Add(3, 4)), answer{7, 0}},
		{"-3 + -4", told(Add(-3, -4)), answer{-7, 0}},
		{"most + 0", told(Add(most, 0)), answer{most, 0}},
		{"most + 1", told(Add(most, 1)), over},
		{"least + 0", told(Add(least, 0)), answer{least, 0}},
		{"least + -1", told(Add(least, -1)), over},
		{"least + least", told(Add(least, least)), over},
		{"most + least", told(Add(most, least)), answer{-1, 0}},
		{"3 - 4", told(Sub(3, 4)), answer{-1, 0}},
		{"-1 - least", told(Sub(-1, least)), answer{most, 0}},
		{"0 - least", told(Sub(0, least)), over},
		{"least - 1", told(Sub(least, 1)), over},
		{"least - least", told(Sub(least, least)), answer{0, 0}},
		{"most - -1", told(Sub(most, -1)), over},
		{"-2 - most", told(Sub(-2, most)), over},
		{"-1 - most", told(Sub(-1, most)), answer{least, 0}},
	} {
		if c.got != c.want {
			t.Error(c.what, c.got, "wanted", c.want)
		}
	}
}

func TestProductsByHand(t *testing.T) { // P1.1
	over := answer{0, api.ErrOver}
	for _, c := range []struct {
		a, b int
		want answer
	}{
		{3, 4, answer{12, 0}},
		{-3, 4, answer{-12, 0}},
		{-3, -4, answer{12, 0}},
		{0, least, answer{0, 0}},
		{least, 1, answer{least, 0}},
		{least, -1, over},
		{least, least, over},
		{most, -1, answer{-most, 0}},
		{most, 2, over},
		{most, most, over},
		{1 << 32, 1 << 30, answer{1 << 62, 0}},
		{1 << 32, 1 << 31, over},
		{-1 << 32, 1 << 31, answer{least, 0}},
		{-1 << 32, -1 << 31, over},
		{1 << 32, 1 << 32, over},
		{3037000499, 3037000499, answer{9223372030926249001, 0}},
		{3037000500, 3037000500, over},
		{1<<32 - 1, 1<<32 + 1, over},
		{1<<31 - 1, 1<<32 + 1, answer{9223372034707292159, 0}},
	} {
		if got := told(Mul(c.a, c.b)); got != c.want {
			t.Error(c.a, "times", c.b, got, "wanted", c.want)
		}
	}
}

func TestSumOfSeveral(t *testing.T) { // P1.1
	over := answer{0, api.ErrOver}
	for _, c := range []struct {
		l    []int
		want answer
	}{
		{nil, answer{0, 0}},
		{[]int{}, answer{0, 0}},
		{[]int{5}, answer{5, 0}},
		{[]int{least}, answer{least, 0}},
		{[]int{1, 2, 3, -10}, answer{-4, 0}},
		{[]int{most, 1, -1}, answer{most, 0}},
		{[]int{most, most, least, least}, answer{-2, 0}},
		{[]int{least, least, most, most, 2}, answer{0, 0}},
		{[]int{most, most, -most, 1}, over},
		{[]int{most, 1}, over},
		{[]int{least, -1}, over},
		{[]int{least, least}, over},
		{[]int{most, most, 2}, over},
		{slices.Repeat([]int{most}, 1000), over},
		{slices.Repeat([]int{most, least}, 1000), answer{-1000, 0}},
		{append(slices.Repeat([]int{most}, 1000), slices.Repeat([]int{-most}, 1000)...), answer{0, 0}},
	} {
		if got := told(Sum(c.l...)); got != c.want {
			t.Error(len(c.l), "numbers", got, "wanted", c.want)
		}
	}
	if got := told(Sum()); got != (answer{0, 0}) {
		t.Error("none", got)
	}
}

func TestSumsAgainstWideNumbers(t *testing.T) { // P1.1
	for a, b := range pairs {
		x, y := wide(a), wide(b)
		if got, want := told(Add(a, b)), told(fitting(new(big.Int).Add(x, y))); got != want {
			t.Fatal(a, "+", b, got, "wanted", want)
		}
		if got, want := told(Sub(a, b)), told(fitting(new(big.Int).Sub(x, y))); got != want {
			t.Fatal(a, "-", b, got, "wanted", want)
		}
		if got, want := told(Mul(a, b)), told(fitting(new(big.Int).Mul(x, y))); got != want {
			t.Fatal(a, "times", b, got, "wanted", want)
		}
	}
	for l := range slices.Chunk(append(edges(), scattered(5000)...), 9) {
		total := new(big.Int)
		for i, n := range l {
			total.Add(total, wide(n))
			if got, want := told(Sum(l[:i+1]...)), told(fitting(new(big.Int).Set(total))); got != want {
				t.Fatal(l[:i+1], got, "wanted", want)
			}
		}
	}
}

func TestSumLeavesItsNumbers(t *testing.T) { // R2
	l := []int{3, most, least, 4, 99}
	kept := slices.Clone(l)
	Sum(l[:4]...)
	if !slices.Equal(l, kept) {
		t.Error("written into", l)
	}
}

func TestQuotientsByHand(t *testing.T) { // P1.2
	over, wrong := answer{0, api.ErrOver}, answer{0, api.ErrArg}
	for _, c := range []struct {
		a, b int
		q, r answer
	}{
		{7, 2, answer{3, 0}, answer{1, 0}},
		{-7, 2, answer{-4, 0}, answer{1, 0}},
		{7, -2, answer{-4, 0}, answer{-1, 0}},
		{-7, -2, answer{3, 0}, answer{-1, 0}},
		{6, 3, answer{2, 0}, answer{0, 0}},
		{-6, 3, answer{-2, 0}, answer{0, 0}},
		{6, -3, answer{-2, 0}, answer{0, 0}},
		{-6, -3, answer{2, 0}, answer{0, 0}},
		{0, -3, answer{0, 0}, answer{0, 0}},
		{1, 5, answer{0, 0}, answer{1, 0}},
		{-1, 5, answer{-1, 0}, answer{4, 0}},
		{1, -5, answer{-1, 0}, answer{-4, 0}},
		{7, 0, wrong, wrong},
		{0, 0, wrong, wrong},
		{least, 0, wrong, wrong},
		{least, -1, over, answer{0, 0}},
		{least + 1, -1, answer{most, 0}, answer{0, 0}},
		{most, -1, answer{-most, 0}, answer{0, 0}},
		{least, 1, answer{least, 0}, answer{0, 0}},
		{least, least, answer{1, 0}, answer{0, 0}},
		{least, most, answer{-2, 0}, answer{most - 1, 0}},
		{most, least, answer{-1, 0}, answer{-1, 0}},
		{1, least, answer{-1, 0}, answer{least + 1, 0}},
	} {
		if q, r := told(Div(c.a, c.b)), told(Mod(c.a, c.b)); q != c.q || r != c.r {
			t.Error(c.a, "by", c.b, q, r, "wanted", c.q, c.r)
		}
	}
}

// rest tells whether r is 0, or between 0 and b.
func rest(r, b int) bool { return r == 0 || 0 < r && r < b || b < r && r < 0 }

func TestQuotientsAgainstWideNumbers(t *testing.T) { // P1.2
	for a, b := range pairs {
		q, e := Div(a, b)
		r, f := Mod(a, b)
		if b == 0 {
			if q != 0 || r != 0 || e != api.ErrArg || f != api.ErrArg {
				t.Fatal(a, "by 0", q, r, int(e), int(f))
			}
			continue
		}
		if f != api.OK || !rest(r, b) {
			t.Fatal(a, "by", b, "leaves", r, int(f))
		}
		whole := new(big.Int).Sub(wide(a), wide(r))
		exact, left := new(big.Int).QuoRem(whole, wide(b), new(big.Int))
		if got, want := (answer{q, e}), told(fitting(exact)); left.Sign() != 0 || got != want {
			t.Fatal(a, "by", b, got, "wanted", want, "left", left)
		}
	}
}

func TestOrderAndUndoing(t *testing.T) { // P1.3
	for a, b := range pairs {
		if told(Add(a, b)) != told(Add(b, a)) {
			t.Fatal("order of a sum", a, b)
		}
		if told(Mul(a, b)) != told(Mul(b, a)) {
			t.Fatal("order of a product", a, b)
		}
		if n, e := Add(a, b); e == api.OK {
			if got := told(Sub(n, b)); got != (answer{a, 0}) {
				t.Fatal("a sum undone", a, b, got)
			}
		}
	}
	l := edges()
	back := slices.Clone(l)
	slices.Reverse(back)
	if told(Sum(l...)) != told(Sum(back...)) {
		t.Error("order of several")
	}
}

func TestRestsRepeat(t *testing.T) { // P1.3
	for a, b := range pairs {
		r, e := Mod(a, b)
		if e != api.OK {
			continue
		}
		if r != 0 && (r < 0) != (b < 0) {
			t.Fatal("sign", a, b, r)
		}
		if next, e := Add(a, b); e == api.OK {
			if got := told(Mod(next, b)); got != (answer{r, 0}) {
				t.Fatal("a divisor further", a, b, got, "wanted", r)
			}
		}
	}
}
