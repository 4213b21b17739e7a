package reach

import (
	"math"
	"math/bits"
	"slices"
	"strconv"
	"strings"
	"testing"

	"millwright/api"
)

// all is the set of all numbers.
const all = 1<<64 - 1

// graph returns n rows with the edges that s describes, such as "0>1 2>0", without any check.
func graph(n int, s string) []uint64 {
	r := make([]uint64, n)
	for _, x := range strings.Fields(s) {
		from, to, _ := strings.Cut(x, ">")
		a, _ := strconv.Atoi(from)
		b, _ := strconv.Atoi(to)
		r[a] |= 1 << b
	}
	return r
}

// set returns the set of the numbers.
func set(numbers ...int) uint64 {
	s := uint64(0)
	for _, n := range numbers {
		s |= 1 << n
	}
	return s
}

// path returns n rows in which every number but the last needs the next one.
func path(n int) []uint64 {
	r := make([]uint64, n)
	for i := range n - 1 {
		r[i] = 2 << i
	}
	return r
}

// circle returns n rows in which every number needs the next one, and the last one the first.
func circle(n int) []uint64 {
	r := path(n)
	r[n-1] = 1
	return r
}

// smallGraphs calls f with the rows of every graph of up to max numbers.
func smallGraphs(max int, f func(r []uint64)) {
	for n := range max + 1 {
		for chosen := range uint64(1) << (n * n) {
			r := make([]uint64, n)
			for i := range r {
				r[i] = chosen >> (i * n) & (1<<n - 1)
			}
			f(r)
		}
	}
}

// manyGraphs calls f with graphs of up to 64 numbers and of different densities, always with the same ones.
func manyGraphs(f func(r []uint64)) {
	x := uint64(1)
	next := func() uint64 {
		x = x*6364136223846793005 + 1442695040888963407
		return bits.RotateLeft64(x^x>>29, int(x>>58))
	}
	for i := range 260 {
		n := i % 65
		r := make([]uint64, n)
		for k := range r {
			r[k] = next() & next() & next() & next()
			for range i % 4 {
				r[k] &= next()
			}
			if n < 64 {
				r[k] &= 1<<n - 1
			}
		}
		f(r)
	}
}

// walks calls f with the start, the end, the steps and the numbers of each walk that has at most max steps.
func walks(r []uint64, max int, f func(start, end, steps int, numbers uint64)) {
	var walk func(start, end, steps int, numbers uint64)
	walk = func(start, end, steps int, numbers uint64) {
		numbers |= 1 << end
		f(start, end, steps, numbers)
		for n := 0; n < len(r) && steps < max; n++ {
			if r[end]>>n&1 == 1 {
				walk(start, n, steps+1, numbers)
			}
		}
	}
	for n := range r {
		walk(n, n, 0, 0)
	}
}

// wantError tests that all functions return this error for the rows, and nothing else.
func wantError(t *testing.T, r []uint64, want api.Errno) {
	t.Helper()
	if e := Check(r); e != want {
		t.Errorf("Check(%x) = %d, want %d", r, e, want)
	}
	if u, e := Back(r); len(u) != 0 || e != want {
		t.Errorf("Back(%x) = %x, %d, want %d", r, u, e, want)
	}
	if u, e := Close(r); len(u) != 0 || e != want {
		t.Errorf("Close(%x) = %x, %d, want %d", r, u, e, want)
	}
	for _, s := range []uint64{0, 1, 1 << 63, all} {
		if u, e := From(r, s); u != 0 || e != want {
			t.Errorf("From(%x, %x) = %x, %d, want %d", r, s, u, e, want)
		}
		for _, depth := range []int{math.MinInt, -1, 0, 1, math.MaxInt} {
			if u, e := Within(r, s, depth); u != 0 || e != want {
				t.Errorf("Within(%x, %x, %d) = %x, %d, want %d", r, s, depth, u, e, want)
			}
		}
		for _, b := range []uint64{0, 1, 1 << 63, all} {
			if u, e := Between(r, s, b); u != 0 || e != want {
				t.Errorf("Between(%x, %x, %x) = %x, %d, want %d", r, s, b, u, e, want)
			}
		}
	}
}

func TestTheNumberOfRows(t *testing.T) {
	for n := range 200 {
		r := make([]uint64, n)
		if n > 64 {
			wantError(t, r, api.ErrLarge)
		} else if e := Check(r); e != api.OK {
			t.Errorf("Check of %d rows = %d", n, e)
		}
	}
	if e := Check(nil); e != api.OK {
		t.Errorf("Check of no rows = %d", e)
	}
}

func TestNumbersWithoutARow(t *testing.T) {
	for n := range 65 {
		for at := range n {
			for number := range 64 {
				r := make([]uint64, n)
				r[at] = 1 << number
				want := api.OK
				if number >= n {
					want = api.ErrRange
				}
				if e := Check(r); e != want {
					t.Errorf("Check of %d rows with %d in row %d = %d, want %d", n, number, at, e, want)
				}
			}
		}
	}
	wantError(t, []uint64{2}, api.ErrRange)
	wantError(t, []uint64{all}, api.ErrRange)
	wantError(t, []uint64{1, 2, 4, 8, 32}, api.ErrRange)
	wantError(t, []uint64{1 << 63, 0, 0}, api.ErrRange)
	wantError(t, append(make([]uint64, 62), 1<<63), api.ErrRange)
	wantError(t, slices.Repeat([]uint64{all}, 63), api.ErrRange)
	if e := Check(slices.Repeat([]uint64{all}, 64)); e != api.OK {
		t.Errorf("Check of all edges of 64 numbers = %d", e)
	}
}

func TestTheOrderOfTheErrors(t *testing.T) {
	// There is a row for every number of 65 rows, but there are too many of them.
	wantError(t, slices.Repeat([]uint64{all}, 65), api.ErrLarge)
	wantError(t, slices.Repeat([]uint64{all}, 1000), api.ErrLarge)
	// An error of the rows comes before a depth that is negative.
	wantError(t, []uint64{0, 4}, api.ErrRange)
	for n := range 64 {
		r := make([]uint64, n)
		for _, s := range []uint64{1 << n, 1 << 63, all, all << n} {
			for _, depth := range []int{math.MinInt, -1, 0, 1, math.MaxInt} {
				if u, e := Within(r, s, depth); u != 0 || e != api.ErrRange {
					t.Errorf("Within(%x, %x, %d) = %x, %d, want ErrRange", r, s, depth, u, e)
				}
			}
		}
	}
}

func TestSetsWithANumberWithoutARow(t *testing.T) {
	for n := range 65 {
		r := make([]uint64, n)
		for number := range 64 {
			s, want, wanted := uint64(1)<<number, api.OK, uint64(1)<<number
			if number >= n {
				want, wanted = api.ErrRange, 0
			}
			if u, e := From(r, s); u != wanted || e != want {
				t.Errorf("From(%x, %x) = %x, %d, want %x, %d", r, s, u, e, wanted, want)
			}
			if u, e := Within(r, s, 3); u != wanted || e != want {
				t.Errorf("Within(%x, %x, 3) = %x, %d, want %x, %d", r, s, u, e, wanted, want)
			}
			if u, e := Between(r, s, s); u != wanted || e != want {
				t.Errorf("Between(%x, %x, %x) = %x, %d, want %x, %d", r, s, s, u, e, wanted, want)
			}
			if u, e := Between(r, s, 0); u != 0 || e != want {
				t.Errorf("Between(%x, %x, 0) = %x, %d, want 0, %d", r, s, u, e, want)
			}
			if u, e := Between(r, 0, s); u != 0 || e != want {
				t.Errorf("Between(%x, 0, %x) = %x, %d, want 0, %d", r, s, u, e, want)
			}
		}
	}
	if u, e := From(graph(2, "0>1"), 5); u != 0 || e != api.ErrRange {
		t.Errorf("From a set with one number without a row = %x, %d", u, e)
	}
}

func TestNegativeDepths(t *testing.T) {
	for _, depth := range []int{-1, -2, -64, math.MinInt} {
		for _, r := range [][]uint64{nil, {0}, {1}, path(64), circle(64)} {
			if u, e := Within(r, 0, depth); u != 0 || e != api.ErrArg {
				t.Errorf("Within(%x, 0, %d) = %x, %d, want ErrArg", r, depth, u, e)
			}
		}
		if u, e := Within(path(64), all, depth); u != 0 || e != api.ErrArg {
			t.Errorf("Within all numbers and %d = %x, %d, want ErrArg", depth, u, e)
		}
	}
}

func TestTheExample(t *testing.T) {
	r := graph(3, "0>1 1>2")
	if u, e := From(r, set(1)); u != set(1, 2) || e != api.OK {
		t.Errorf("From({1}) = %x, %d", u, e)
	}
	if c, e := Close(r); !slices.Equal(c, []uint64{set(1, 2), set(2), 0}) || e != api.OK {
		t.Errorf("Close = %x, %d", c, e)
	}
	// Within 0 steps only the start is reached.
	for s := range uint64(8) {
		if u, e := Within(r, s, 0); u != s || e != api.OK {
			t.Errorf("Within(%x, 0) = %x, %d", s, u, e)
		}
	}
}

func TestNoRows(t *testing.T) {
	for _, r := range [][]uint64{nil, {}} {
		if u, e := From(r, 0); u != 0 || e != api.OK {
			t.Errorf("From = %x, %d", u, e)
		}
		if u, e := Within(r, 0, 5); u != 0 || e != api.OK {
			t.Errorf("Within = %x, %d", u, e)
		}
		if u, e := Between(r, 0, 0); u != 0 || e != api.OK {
			t.Errorf("Between = %x, %d", u, e)
		}
		if u, e := Back(r); len(u) != 0 || e != api.OK {
			t.Errorf("Back = %x, %d", u, e)
		}
		if u, e := Close(r); len(u) != 0 || e != api.OK {
			t.Errorf("Close = %x, %d", u, e)
		}
	}
}

func TestAPathOfAllNumbers(t *testing.T) {
	r := path(64)
	back, e := Back(r)
	if e != api.OK {
		t.Fatalf("Back = %d", e)
	}
	closed, e := Close(r)
	if e != api.OK {
		t.Fatalf("Close = %d", e)
	}
	for n := range 64 {
		after := uint64(all) << n
		if u, e := From(r, 1<<n); u != after || e != api.OK {
			t.Errorf("From(%d) = %x, %d", n, u, e)
		}
		// A shift by 64 gives 0.
		if closed[n] != after<<1 {
			t.Errorf("Close of %d is %x", n, closed[n])
		}
		if back[n] != 1<<n>>1 {
			t.Errorf("Back of %d is %x", n, back[n])
		}
		for _, depth := range []int{0, 1, 2, 30, 62, 63, 64, 65, math.MaxInt} {
			if u, e := Within(r, 1<<n, depth); u != after&^(after<<min(depth, 64)<<1) || e != api.OK {
				t.Errorf("Within(%d, %d) = %x, %d", n, depth, u, e)
			}
		}
		if u, e := Between(r, 1<<10, 1<<n); u != all&^1023&^(after<<1) || e != api.OK {
			t.Errorf("Between(10, %d) = %x, %d", n, u, e)
		}
	}
}

func TestACircleOfAllNumbers(t *testing.T) {
	r := circle(64)
	closed, e := Close(r)
	if !slices.Equal(closed, slices.Repeat([]uint64{all}, 64)) || e != api.OK {
		t.Errorf("Close = %x, %d", closed, e)
	}
	for n := range 64 {
		if u, e := From(r, 1<<n); u != all || e != api.OK {
			t.Errorf("From(%d) = %x, %d", n, u, e)
		}
		if u, e := Within(r, 1<<n, 62); u != all&^bits.RotateLeft64(1, n-1) || e != api.OK {
			t.Errorf("Within(%d, 62) = %x, %d", n, u, e)
		}
		if u, e := Within(r, 1<<n, math.MaxInt); u != all || e != api.OK {
			t.Errorf("Within(%d, many) = %x, %d", n, u, e)
		}
		// A walk may go around, even to where it started.
		if u, e := Between(r, 1<<n, 1<<n); u != all || e != api.OK {
			t.Errorf("Between(%d, %d) = %x, %d", n, n, u, e)
		}
	}
}

func TestWalksFromSeveralNumbers(t *testing.T) {
	r := graph(8, "0>1 1>2 3>4 4>1 5>6 6>5 7>7")
	for _, c := range []struct{ s, from, one uint64 }{
		{0, 0, 0},
		{set(0), set(0, 1, 2), set(0, 1)},
		{set(0, 3), set(0, 1, 2, 3, 4), set(0, 1, 3, 4)},
		{set(2, 5), set(2, 5, 6), set(2, 5, 6)},
		{set(7), set(7), set(7)},
		{set(2, 7), set(2, 7), set(2, 7)},
		{255, 255, 255},
	} {
		if u, e := From(r, c.s); u != c.from || e != api.OK {
			t.Errorf("From(%x) = %x, %d, want %x", c.s, u, e, c.from)
		}
		if u, e := Within(r, c.s, 1); u != c.one || e != api.OK {
			t.Errorf("Within(%x, 1) = %x, %d, want %x", c.s, u, e, c.one)
		}
	}
	for _, c := range []struct{ a, b, want uint64 }{
		{set(0), set(2), set(0, 1, 2)},
		{set(0, 3), set(2), set(0, 1, 2, 3, 4)},
		{set(0, 3), set(4), set(3, 4)},
		{set(3), set(2, 4), set(1, 2, 3, 4)},
		{set(2), set(0), 0},
		{set(5), set(6, 7), set(5, 6)},
		{set(5), set(5), set(5, 6)},
		{set(7), set(7), set(7)},
		{set(0, 5), set(1, 6), set(0, 1, 5, 6)},
		// The numbers of two walks that do not fit together are not between.
		{set(0, 5), set(3, 7), 0},
		{255, 255, 255},
	} {
		if u, e := Between(r, c.a, c.b); u != c.want || e != api.OK {
			t.Errorf("Between(%x, %x) = %x, %d, want %x", c.a, c.b, u, e, c.want)
		}
	}
	if c, e := Close(r); !slices.Equal(c, []uint64{set(1, 2), set(2), 0, set(1, 2, 4), set(1, 2), set(5, 6), set(5, 6), set(7)}) || e != api.OK {
		t.Errorf("Close = %x, %d", c, e)
	}
	if b, e := Back(r); !slices.Equal(b, []uint64{0, set(0, 4), set(1), 0, set(3), set(6), set(5), set(7)}) || e != api.OK {
		t.Errorf("Back = %x, %d", b, e)
	}
}

func TestAllSmallGraphsByTheirWalks(t *testing.T) {
	count := 0
	smallGraphs(3, func(r []uint64) {
		count++
		n := len(r)
		var closed [3]uint64
		var within [8][3]uint64
		var between [3][3]uint64
		// Two walks without a number twice, one after the other, show every number that is between two others.
		walks(r, 2*n, func(start, end, steps int, numbers uint64) {
			for depth := steps; depth < len(within); depth++ {
				within[depth][start] |= 1 << end
			}
			if steps > 0 {
				closed[start] |= 1 << end
			}
			between[start][end] |= numbers
		})
		if c, e := Close(r); !slices.Equal(c, closed[:n]) || e != api.OK {
			t.Fatalf("Close(%x) = %x, %d, want %x", r, c, e, closed)
		}
		for a := range uint64(1) << n {
			for depth := range within {
				if u, e := Within(r, a, depth); u != union(within[depth][:], a) || e != api.OK {
					t.Fatalf("Within(%x, %x, %d) = %x, %d", r, a, depth, u, e)
				}
			}
			if u, e := From(r, a); u != union(within[7][:], a) || e != api.OK {
				t.Fatalf("From(%x, %x) = %x, %d", r, a, u, e)
			}
			for b := range uint64(1) << n {
				var ends [3]uint64
				for start := range ends {
					ends[start] = union(between[start][:], b)
				}
				if u, e := Between(r, a, b); u != union(ends[:], a) || e != api.OK {
					t.Fatalf("Between(%x, %x, %x) = %x, %d", r, a, b, u, e)
				}
			}
		}
	})
	if count != 1+2+16+512 {
		t.Errorf("only %d graphs", count)
	}
}

// union returns the union of the sets with the numbers in s.
func union(sets []uint64, s uint64) uint64 {
	u := uint64(0)
	for n, x := range sets {
		if s>>n&1 == 1 {
			u |= x
		}
	}
	return u
}

// closure returns, for each number, the numbers at which walks of at least one step that start there end, by joining walks at each number in turn.
func closure(r []uint64) []uint64 {
	c := slices.Clone(r)
	for middle := range c {
		for n := range c {
			if c[n]>>middle&1 == 1 {
				c[n] |= c[middle]
			}
		}
	}
	return c
}

// testByClosure compares all functions but Within with their definitions by the closure, for the walks between any two numbers.
func testByClosure(t *testing.T, r []uint64) {
	t.Helper()
	want := closure(r)
	if c, e := Close(r); !slices.Equal(c, want) || e != api.OK {
		t.Fatalf("Close(%x) = %x, %d, want %x", r, c, e, want)
	}
	back, e := Back(r)
	if len(back) != len(r) || e != api.OK {
		t.Fatalf("Back(%x) = %x, %d", r, back, e)
	}
	for a := range r {
		want[a] |= 1 << a
		for b := range 64 {
			if (b < len(r) && back[b]>>a&1 == 1) != (r[a]>>b&1 == 1) {
				t.Fatalf("Back(%x) = %x", r, back)
			}
		}
	}
	for a := range r {
		if u, e := From(r, 1<<a); u != want[a] || e != api.OK {
			t.Fatalf("From(%x, %x) = %x, %d, want %x", r, 1<<a, u, e, want[a])
		}
		for b := range r {
			between := uint64(0)
			for n := range r {
				if want[a]>>n&1 == 1 && want[n]>>b&1 == 1 {
					between |= 1 << n
				}
			}
			if u, e := Between(r, 1<<a, 1<<b); u != between || e != api.OK {
				t.Fatalf("Between(%x, %x, %x) = %x, %d, want %x", r, 1<<a, 1<<b, u, e, between)
			}
		}
	}
}

func TestGraphsByTheirClosure(t *testing.T) {
	smallGraphs(4, func(r []uint64) { testByClosure(t, r) })
	manyGraphs(func(r []uint64) { testByClosure(t, r) })
}

func TestDepthsOfManyGraphs(t *testing.T) {
	manyGraphs(func(r []uint64) {
		for n := range r {
			want := uint64(1) << n
			for depth := range 70 {
				if u, e := Within(r, 1<<n, depth); u != want || e != api.OK {
					t.Fatalf("Within(%x, %x, %d) = %x, %d, want %x", r, 1<<n, depth, u, e, want)
				}
				want |= union(r, want)
			}
			if u, e := From(r, 1<<n); u != want || e != api.OK {
				t.Fatalf("From(%x, %x) = %x, %d, want %x", r, 1<<n, u, e, want)
			}
		}
	})
}

func TestArgumentsAreNotModified(t *testing.T) {
	r := []uint64{2, 4, 1 | 8, 0, 7, 9}
	want := slices.Clone(r)
	for n := range len(r) + 1 {
		part := r[:n]
		Check(part)
		Back(part)
		Close(part)
		for s := range uint64(16) {
			From(part, s)
			Within(part, s, 2)
			Between(part, s, 1)
		}
	}
	if !slices.Equal(r, want) {
		t.Errorf("the rows are %x, want %x", r, want)
	}
}

func TestResultsAreNewMemory(t *testing.T) {
	for i, f := range []func(r []uint64) ([]uint64, api.Errno){Back, Close} {
		// For this graph, both results have the rows of the graph itself.
		r := []uint64{1, 2, 4}
		first, e := f(r)
		if !slices.Equal(first, r) || e != api.OK {
			t.Fatalf("function %d = %x, %d", i, first, e)
		}
		clear(first[:cap(first)])
		if !slices.Equal(r, []uint64{1, 2, 4}) {
			t.Errorf("function %d returned its argument", i)
		}
		second, _ := f(r)
		clear(r)
		if !slices.Equal(second, []uint64{1, 2, 4}) {
			t.Errorf("function %d kept its argument or its result: %x", i, second)
		}
	}
}
