package knot

import (
	"math/bits"
	"slices"
	"strconv"
	"strings"
	"testing"

	"millwright/api"
)

// all is the set of all numbers.
const all = 1<<64 - 1

// graph returns n rows with the edges that s describes, such as "0>1 2>0", without any check.
func graph(n int, s string) []uint64 {
	r := make([]uint64, n)
	for _, x := range strings.Fields(s) {
		from, to, _ := strings.Cut(x, ">")
		a, _ := strconv.Atoi(from)
		b, _ := strconv.Atoi(to)
		r[a] |= 1 << b
	}
	return r
}

// set returns the set of the numbers.
func set(numbers ...int) uint64 {
	s := uint64(0)
	for _, n := range numbers {
		s |= 1 << n
	}
	return s
}

// path returns n rows in which every number but the last needs the next one.
func path(n int) []uint64 {
	r := make([]uint64, n)
	for i := range n - 1 {
		r[i] = 2 << i
	}
	return r
}

// circle returns n rows in which every number needs the next one, and the last one the first.
func circle(n int) []uint64 {
	r := path(n)
	r[n-1] = 1
	return r
}

// smallGraphs calls f with the rows of every graph of up to max numbers.
func smallGraphs(max int, f func(r []uint64)) {
	for n := range max + 1 {
		for chosen := range uint64(1) << (n * n) {
			r := make([]uint64, n)
			for i := range r {
				r[i] = chosen >> (i * n) & (1<<n - 1)
			}
			f(r)
		}
	}
}

// manyGraphs calls f with graphs of up to 64 numbers, always with the same ones: of different densities, and every other one without cycles.
func manyGraphs(f func(r []uint64)) {
	x := uint64(1)
	next := func() uint64 {
		x = x*6364136223846793005 + 1442695040888963407
		return bits.RotateLeft64(x^x>>29, int(x>>58))
	}
	for i := range 520 {
		n := i / 2 % 65
		r := make([]uint64, n)
		place := shuffled(n, next)
		for k := range r {
			row := next() & next() & next()
			for range i / 2 % 5 {
				row &= next()
			}
			for to := range n {
				// Where each number only needs those of later places, there is no cycle.
				if row>>to&1 == 1 && (i%2 == 0 || place[k] < place[to]) {
					r[k] |= 1 << to
				}
			}
		}
		f(r)
	}
}

// shuffled returns the numbers below n in an order that next decides.
func shuffled(n int, next func() uint64) []int {
	l := make([]int, n)
	for i := range l {
		k := int(next() % uint64(i+1))
		l[i], l[k] = l[k], i
	}
	return l
}

// closure returns, for each number, the numbers at which walks of at least one step that start there end, by joining walks at each number in turn.
func closure(r []uint64) []uint64 {
	c := slices.Clone(r)
	for middle := range c {
		for n := range c {
			if c[n]>>middle&1 == 1 {
				c[n] |= c[middle]
			}
		}
	}
	return c
}

// wantError tests that all functions return this error for the rows, and nothing else.
func wantError(t *testing.T, r []uint64, want api.Errno) {
	t.Helper()
	if l, e := Parts(r); len(l) != 0 || e != want {
		t.Errorf("Parts(%x) = %x, %d, want %d", r, l, e, want)
	}
	if l, e := Fold(r); len(l) != 0 || e != want {
		t.Errorf("Fold(%x) = %x, %d, want %d", r, l, e, want)
	}
	if l, e := Order(r); len(l) != 0 || e != want {
		t.Errorf("Order(%x) = %d, %d, want %d", r, l, e, want)
	}
	if l, e := Ring(r); len(l) != 0 || e != want {
		t.Errorf("Ring(%x) = %d, %d, want %d", r, l, e, want)
	}
}

// wantParts tests the results of Parts and Fold.
func wantParts(t *testing.T, r, parts, folded []uint64) {
	t.Helper()
	if l, e := Parts(r); !slices.Equal(l, parts) || e != api.OK {
		t.Fatalf("Parts(%x) = %x, %d, want %x", r, l, e, parts)
	}
	if l, e := Fold(r); !slices.Equal(l, folded) || e != api.OK {
		t.Fatalf("Fold(%x) = %x, %d, want %x", r, l, e, folded)
	}
}

// wantOrder tests that there is this order and no cycle.
func wantOrder(t *testing.T, r []uint64, order ...int) {
	t.Helper()
	if l, e := Order(r); !slices.Equal(l, order) || e != api.OK {
		t.Fatalf("Order(%x) = %d, %d, want %d", r, l, e, order)
	}
	if l, e := Ring(r); len(l) != 0 || e != api.ErrNone {
		t.Fatalf("Ring(%x) = %d, %d, want ErrNone", r, l, e)
	}
}

// wantCycle tests that there is no order, but a cycle, and that it is always the same one.
func wantCycle(t *testing.T, r []uint64) {
	t.Helper()
	if l, e := Order(r); len(l) != 0 || e != api.ErrCycle {
		t.Fatalf("Order(%x) = %d, %d, want ErrCycle", r, l, e)
	}
	ring, e := Ring(r)
	if !isCycle(r, ring) || e != api.OK {
		t.Fatalf("Ring(%x) = %d, %d", r, ring, e)
	}
	if again, e := Ring(r); !slices.Equal(again, ring) || e != api.OK {
		t.Fatalf("Ring(%x) = %d, %d, but before it was %d", r, again, e, ring)
	}
}

// isCycle reports whether the numbers are distinct, each of them needs the next one, and the last of them needs the first one.
func isCycle(r []uint64, l []int) bool {
	seen := uint64(0)
	for i, n := range l {
		next := l[(i+1)%len(l)]
		if n < 0 || n >= len(r) || seen>>n&1 == 1 || r[n]>>next&1 == 0 {
			return false
		}
		seen |= 1 << n
	}
	return len(l) > 0
}

func TestTheNumberOfRows(t *testing.T) {
	for n := range 200 {
		r := make([]uint64, n)
		if n > 64 {
			wantError(t, r, api.ErrLarge)
			continue
		}
		one, counted := make([]uint64, n), make([]int, n)
		for i := range n {
			one[i], counted[i] = 1<<i, i
		}
		wantParts(t, r, one, r)
		wantOrder(t, r, counted...)
	}
	wantParts(t, nil, nil, nil)
	wantOrder(t, nil)
}

func TestNumbersWithoutARow(t *testing.T) {
	for n := range 64 {
		for at := range n {
			for number := n; number < 64; number++ {
				r := make([]uint64, n)
				r[at] = 1 << number
				wantError(t, r, api.ErrRange)
			}
		}
	}
	wantError(t, []uint64{2}, api.ErrRange)
	wantError(t, []uint64{0, 0, 1 << 63}, api.ErrRange)
	wantError(t, slices.Repeat([]uint64{all}, 63), api.ErrRange)
}

func TestTheOrderOfTheErrors(t *testing.T) {
	wantError(t, slices.Repeat([]uint64{all}, 65), api.ErrLarge)
	wantError(t, slices.Repeat([]uint64{all}, 1000), api.ErrLarge)
	// An error of the rows comes before that of a cycle, and before that of none.
	wantError(t, circle(65), api.ErrLarge)
	wantError(t, []uint64{1, 4}, api.ErrRange)
	wantError(t, []uint64{2, 1, 0, 1 << 4}, api.ErrRange)
	wantError(t, []uint64{2, 4}, api.ErrRange)
}

func TestTheExample(t *testing.T) {
	r := graph(3, "0>1 1>2 2>1")
	wantParts(t, r, []uint64{set(0), set(1, 2)}, []uint64{set(1), 0})
	wantCycle(t, r)
	if l, _ := Ring(r); !slices.Equal(l, []int{1, 2}) && !slices.Equal(l, []int{2, 1}) {
		t.Errorf("Ring = %d", l)
	}
}

func TestANumberThatNeedsItself(t *testing.T) {
	for n := 1; n <= 64; n++ {
		for at := range n {
			r := make([]uint64, n)
			r[at] = 1 << at
			one := make([]uint64, n)
			for i := range one {
				one[i] = 1 << i
			}
			// In the condensation no number needs itself.
			wantParts(t, r, one, make([]uint64, n))
			wantCycle(t, r)
			if l, _ := Ring(r); !slices.Equal(l, []int{at}) {
				t.Errorf("Ring(%x) = %d", r, l)
			}
		}
	}
}

func TestAPathOfAllNumbers(t *testing.T) {
	for n := 1; n <= 64; n++ {
		r := path(n)
		one, order := make([]uint64, n), make([]int, n)
		for i := range n {
			one[i], order[i] = 1<<i, n-1-i
		}
		wantParts(t, r, one, r)
		wantOrder(t, r, order...)
	}
}

func TestACircleOfAllNumbers(t *testing.T) {
	for n := 1; n <= 64; n++ {
		r := circle(n)
		// A shift by 64 gives 0.
		wantParts(t, r, []uint64{1<<n - 1}, []uint64{0})
		wantCycle(t, r)
		if l, _ := Ring(r); len(l) != n {
			t.Errorf("Ring of a circle of %d numbers = %d", n, l)
		}
	}
}

func TestAllEdges(t *testing.T) {
	wantParts(t, slices.Repeat([]uint64{all}, 64), []uint64{all}, []uint64{0})
	wantCycle(t, slices.Repeat([]uint64{all}, 64))
	later := make([]uint64, 64)
	var order []int
	for n := range later {
		later[n] = all << n << 1
		order = append(order, 63-n)
	}
	wantOrder(t, later, order...)
}

func TestPartsAreOrderedByTheirSmallestNumbers(t *testing.T) {
	for _, c := range []struct {
		r             []uint64
		parts, folded []uint64
	}{
		// The greatest numbers say nothing, nor do the sets as words.
		{graph(4, "0>3 3>0"), []uint64{set(0, 3), set(1), set(2)}, []uint64{0, 0, 0}},
		{graph(5, "0>4 4>0 1>3 3>1"), []uint64{set(0, 4), set(1, 3), set(2)}, []uint64{0, 0, 0}},
		{graph(6, "0>5 5>2 2>0 1>4 4>1 4>5 3>1 3>3"), []uint64{set(0, 2, 5), set(1, 4), set(3)}, []uint64{0, set(0), set(1)}},
		// A component may need one that comes before it, and one that comes after it.
		{graph(4, "0>1 1>2 2>1 2>3"), []uint64{set(0), set(1, 2), set(3)}, []uint64{set(1), set(2), 0}},
		{graph(4, "3>1 1>2 2>1 2>0"), []uint64{set(0), set(1, 2), set(3)}, []uint64{0, set(0), set(1)}},
		// Only needs themselves are needs of the condensation, and only once.
		{graph(4, "0>1 0>2 1>3 2>3 1>2 2>1"), []uint64{set(0), set(1, 2), set(3)}, []uint64{set(1), set(2), 0}},
		{graph(3, "0>1 1>2"), []uint64{set(0), set(1), set(2)}, []uint64{set(1), set(2), 0}},
		// One direction is not enough.
		{graph(3, "0>1 0>2 1>2"), []uint64{set(0), set(1), set(2)}, []uint64{set(1, 2), set(2), 0}},
		// Two cycles with a common number are one component.
		{graph(5, "0>2 2>0 2>4 4>2 1>2 4>3"), []uint64{set(0, 2, 4), set(1), set(3)}, []uint64{set(2), set(0), 0}},
		{graph(64, "63>0 0>62 62>63"), append([]uint64{set(0, 62, 63)}, ones(1, 62)...), make([]uint64, 62)},
	} {
		wantParts(t, c.r, c.parts, c.folded)
	}
}

// ones returns the sets of one number each, from start to before end.
func ones(start, end int) []uint64 {
	var l []uint64
	for n := start; n < end; n++ {
		l = append(l, 1<<n)
	}
	return l
}

func TestOrdersTakeTheSmallestNumberThatIsReady(t *testing.T) {
	wantOrder(t, graph(3, ""), 0, 1, 2)
	wantOrder(t, graph(3, "0>1"), 1, 0, 2)
	wantOrder(t, graph(3, "0>2"), 1, 2, 0)
	wantOrder(t, graph(3, "2>0"), 0, 1, 2)
	// As soon as the need of a smaller number has occurred, that number comes next.
	wantOrder(t, graph(5, "0>3 1>4"), 2, 3, 0, 4, 1)
	wantOrder(t, graph(5, "0>4 1>3"), 2, 3, 1, 4, 0)
	// All needs must have occurred.
	wantOrder(t, graph(5, "0>1 0>4 1>2"), 2, 1, 3, 4, 0)
	// This is no sort by the length of walks.
	wantOrder(t, graph(6, "1>0 2>1 3>5"), 0, 1, 2, 4, 5, 3)
	wantOrder(t, graph(64, "0>63"), append(counted(1, 64), 0)...)
	wantOrder(t, graph(64, "63>0"), counted(0, 64)...)
}

// counted returns the numbers from start to before end.
func counted(start, end int) []int {
	var l []int
	for n := start; n < end; n++ {
		l = append(l, n)
	}
	return l
}

func TestCycles(t *testing.T) {
	for _, c := range []struct {
		n    int
		s    string
		ring []int
	}{
		{2, "0>1 1>0", []int{0, 1}},
		{3, "0>2 2>1 1>0", []int{0, 2, 1}},
		{4, "2>2 0>1 1>2 2>3", []int{2}},
		// The numbers that lead to a cycle, and those to which it leads, are not in it.
		{6, "0>1 1>3 3>4 4>1 3>5 2>0", []int{1, 3, 4}},
		{6, "5>4 4>3 3>2 2>4 2>0 3>1", []int{4, 3, 2}},
		// A number can need others that need no number of a cycle.
		{7, "0>1 1>2 2>3 0>4 4>5 5>6 6>4 6>3", []int{4, 5, 6}},
		{64, "0>63 63>62 62>63", []int{63, 62}},
	} {
		r := graph(c.n, c.s)
		wantCycle(t, r)
		if l, _ := Ring(r); !isRotated(l, c.ring) {
			t.Errorf("Ring(%s) = %d, want %d", c.s, l, c.ring)
		}
	}
	wantCycle(t, graph(4, "0>1 1>0 2>3 3>2"))
	wantCycle(t, graph(4, "0>0 0>1 1>0 3>3"))
	wantCycle(t, graph(5, "0>1 1>2 2>0 2>3 3>4 4>2 1>3"))
}

// isRotated reports whether the list l is the cycle ring from some of its numbers on.
func isRotated(l, ring []int) bool {
	for i := range ring {
		if slices.Equal(l, slices.Concat(ring[i:], ring[:i])) {
			return true
		}
	}
	return false
}

// partsByDefinition returns the maximal sets of mutually reachable numbers, ordered by their smallest numbers.
func partsByDefinition(r []uint64) []uint64 {
	closed := closure(r)
	mutual := func(s uint64) bool {
		for a := range r {
			for b := range r {
				if a != b && s>>a&1 == 1 && s>>b&1 == 1 && closed[a]>>b&1 == 0 {
					return false
				}
			}
		}
		return true
	}
	var parts []uint64
	for smallest := range r {
		for s := range uint64(1) << len(r) {
			if s == 0 || bits.TrailingZeros64(s) != smallest || !mutual(s) {
				continue
			}
			maximal := true
			for n := range r {
				maximal = maximal && (s>>n&1 == 1 || !mutual(s|1<<n))
			}
			if maximal {
				parts = append(parts, s)
			}
		}
	}
	return parts
}

// foldByDefinition returns the rows of the condensation with the given components.
func foldByDefinition(r, parts []uint64) []uint64 {
	folded := make([]uint64, len(parts))
	for from, row := range r {
		for to := range r {
			i := slices.IndexFunc(parts, func(s uint64) bool { return s>>from&1 == 1 })
			k := slices.IndexFunc(parts, func(s uint64) bool { return s>>to&1 == 1 })
			if row>>to&1 == 1 && i != k {
				folded[i] |= 1 << k
			}
		}
	}
	return folded
}

// firstOrder returns the first order, in lexicographic order, of all orders in which each number comes after what it needs.
func firstOrder(r []uint64) ([]int, bool) {
	var order []int
	var extend func(occurred uint64) bool
	extend = func(occurred uint64) bool {
		if len(order) == len(r) {
			return true
		}
		for n := range r {
			if occurred>>n&1 == 1 || r[n]&^occurred != 0 {
				continue
			}
			order = append(order, n)
			if extend(occurred | 1<<n) {
				return true
			}
			order = order[:len(order)-1]
		}
		return false
	}
	return order, extend(0)
}

// testOrder compares Order and Ring with the definition of a cycle, and with that of the order.
func testOrder(t *testing.T, r []uint64, order []int) {
	t.Helper()
	cyclic := false
	for n, s := range closure(r) {
		cyclic = cyclic || s>>n&1 == 1
	}
	if cyclic {
		wantCycle(t, r)
	} else {
		wantOrder(t, r, order...)
	}
}

func TestAllSmallGraphs(t *testing.T) {
	count, ordered := 0, 0
	smallGraphs(4, func(r []uint64) {
		count++
		parts := partsByDefinition(r)
		wantParts(t, r, parts, foldByDefinition(r, parts))
		var order []int
		if l, found := firstOrder(r); found {
			ordered++
			order = l
		}
		testOrder(t, r, order)
	})
	if count != 1+2+16+512+65536 || ordered != 1+1+3+25+543 {
		t.Errorf("%d graphs, %d of them without cycles", count, ordered)
	}
}

// orderByCounts returns the order by counting, for each number, the needs that have not occurred yet.
func orderByCounts(r []uint64) []int {
	needs := make([]int, len(r))
	var ready, order []int
	for n, row := range r {
		needs[n] = bits.OnesCount64(row)
		if row == 0 {
			ready = append(ready, n)
		}
	}
	for len(ready) > 0 {
		slices.Sort(ready)
		done := ready[0]
		ready = ready[1:]
		order = append(order, done)
		for n, row := range r {
			if row>>done&1 == 1 {
				needs[n]--
				if needs[n] == 0 {
					ready = append(ready, n)
				}
			}
		}
	}
	return order
}

// partsByClosure returns the components by the closure, for any two numbers.
func partsByClosure(r []uint64) []uint64 {
	closed := closure(r)
	var parts []uint64
	taken := uint64(0)
	for a := range r {
		if taken>>a&1 == 1 {
			continue
		}
		s := uint64(1) << a
		for b := range r {
			if closed[a]>>b&1 == 1 && closed[b]>>a&1 == 1 {
				s |= 1 << b
			}
		}
		taken |= s
		parts = append(parts, s)
	}
	return parts
}

func TestManyGraphs(t *testing.T) {
	cyclic, several := 0, 0
	manyGraphs(func(r []uint64) {
		parts := partsByClosure(r)
		wantParts(t, r, parts, foldByDefinition(r, parts))
		testOrder(t, r, orderByCounts(r))
		if len(parts) < len(r) {
			cyclic++
			if len(parts) > 1 {
				several++
			}
		}
		// The condensation has no cycle, and its components are its numbers.
		folded, _ := Fold(r)
		wantParts(t, folded, ones(0, len(folded)), folded)
		wantOrder(t, folded, orderByCounts(folded)...)
	})
	if cyclic < 100 || several < 100 {
		t.Errorf("only %d graphs have a component of several numbers, and only %d of them several components", cyclic, several)
	}
}

func TestArgumentsAreNotModified(t *testing.T) {
	for _, r := range [][]uint64{
		graph(6, "0>1 1>2 2>1 3>0 4>4 5>3"),
		graph(6, "5>4 4>3 3>2 2>1 1>0"),
		circle(6),
		{2, 4, 8, 16, 32, 64},
	} {
		want := slices.Clone(r)
		for n := range len(r) + 1 {
			part := r[:n]
			Parts(part)
			Fold(part)
			Order(part)
			Ring(part)
		}
		if !slices.Equal(r, want) {
			t.Errorf("the rows are %x, want %x", r, want)
		}
	}
}

func TestResultsAreNewMemory(t *testing.T) {
	// Of these rows, the components and the condensation are the rows themselves.
	for _, c := range []struct {
		f func(r []uint64) ([]uint64, api.Errno)
		r []uint64
	}{
		{Parts, []uint64{1, 2, 4}},
		{Fold, []uint64{2, 4, 0}},
	} {
		r := slices.Clone(c.r)
		first, e := c.f(r)
		if !slices.Equal(first, c.r) || e != api.OK {
			t.Fatalf("%x, %d, want %x", first, e, c.r)
		}
		clear(first[:cap(first)])
		if !slices.Equal(r, c.r) {
			t.Errorf("the argument %x was returned", c.r)
		}
		second, _ := c.f(r)
		clear(r)
		if !slices.Equal(second, c.r) {
			t.Errorf("the argument or the result %x was kept: %x", c.r, second)
		}
	}
	for i, c := range []struct {
		f func(r []uint64) ([]int, api.Errno)
		r []uint64
	}{
		{Order, path(5)},
		{Ring, circle(5)},
	} {
		first, _ := c.f(c.r)
		want := slices.Clone(first)
		clear(first[:cap(first)])
		if second, e := c.f(c.r); !slices.Equal(second, want) || e != api.OK {
			t.Errorf("function %d kept its result: %d, %d, want %d", i, second, e, want)
		}
	}
}
