package dom

import (
	"math"
	"math/bits"
	"slices"
	"strconv"
	"strings"
	"testing"

	"millwright/api"
)

// all is the set of all numbers.
const all = 1<<64 - 1

// graph returns n rows with the edges that s describes, such as "0>1 2>0", without any check.
func graph(n int, s string) []uint64 {
	r := make([]uint64, n)
	for _, x := range strings.Fields(s) {
		from, to, _ := strings.Cut(x, ">")
		a, _ := strconv.Atoi(from)
		b, _ := strconv.Atoi(to)
		r[a] |= 1 << b
	}
	return r
}

// set returns the set of the numbers.
func set(numbers ...int) uint64 {
	s := uint64(0)
	for _, n := range numbers {
		s |= 1 << n
	}
	return s
}

// path returns n rows in which every number but the last needs the next one.
func path(n int) []uint64 {
	r := make([]uint64, n)
	for i := range n - 1 {
		r[i] = 2 << i
	}
	return r
}

// circle returns n rows in which every number needs the next one, and the last one the first.
func circle(n int) []uint64 {
	r := path(n)
	r[n-1] = 1
	return r
}

// smallGraphs calls f with the rows of every graph of up to max numbers.
func smallGraphs(max int, f func(r []uint64)) {
	for n := range max + 1 {
		for chosen := range uint64(1) << (n * n) {
			r := make([]uint64, n)
			for i := range r {
				r[i] = chosen >> (i * n) & (1<<n - 1)
			}
			f(r)
		}
	}
}

// manyGraphs calls f with graphs of up to 64 numbers, always with the same ones: of different densities, and every other one without cycles.
func manyGraphs(f func(r []uint64)) {
	x := uint64(1)
	next := func() uint64 {
		x = x*6364136223846793005 + 1442695040888963407
		return bits.RotateLeft64(x^x>>29, int(x>>58))
	}
	for i := range 520 {
		n := i / 2 % 65
		r := make([]uint64, n)
		place := shuffled(n, next)
		for k := range r {
			row := next() & next() & next()
			for range i / 2 % 5 {
				row &= next()
			}
			for to := range n {
				// Where each number only needs those of later places, there is no cycle.
				if row>>to&1 == 1 && (i%2 == 0 || place[k] < place[to]) {
					r[k] |= 1 << to
				}
			}
		}
		f(r)
	}
}

// shuffled returns the numbers below n in an order that next decides.
func shuffled(n int, next func() uint64) []int {
	l := make([]int, n)
	for i := range l {
		k := int(next() % uint64(i+1))
		l[i], l[k] = l[k], i
	}
	return l
}

// wantDomsError tests that Doms returns this error, and nothing else.
func wantDomsError(t *testing.T, r []uint64, root int, want api.Errno) {
	t.Helper()
	if l, e := Doms(r, root); len(l) != 0 || e != want {
		t.Errorf("Doms(%x, %d) = %d, %d, want %d", r, root, l, e, want)
	}
}

// wantOverError tests that Over returns this error, and nothing else.
func wantOverError(t *testing.T, r []uint64, root, n int, want api.Errno) {
	t.Helper()
	if l, e := Over(r, root, n); len(l) != 0 || e != want {
		t.Errorf("Over(%x, %d, %d) = %d, %d, want %d", r, root, n, l, e, want)
	}
}

// wantRulesError tests that Rules returns this error, and nothing else.
func wantRulesError(t *testing.T, r []uint64, root, a, b int, want api.Errno) {
	t.Helper()
	if is, e := Rules(r, root, a, b); is || e != want {
		t.Errorf("Rules(%x, %d, %d, %d) = %t, %d, want %d", r, root, a, b, is, e, want)
	}
}

// wantError tests that all functions return this error for the rows, whatever the numbers are.
func wantError(t *testing.T, r []uint64, want api.Errno) {
	t.Helper()
	numbers := []int{math.MinInt, -1, 0, 1, len(r) - 1, len(r), 63, 64, math.MaxInt}
	for _, root := range numbers {
		wantDomsError(t, r, root, want)
		for _, a := range numbers {
			wantOverError(t, r, root, a, want)
			for _, b := range numbers {
				wantRulesError(t, r, root, a, b, want)
			}
		}
	}
}

// wantDoms tests the result of Doms.
func wantDoms(t *testing.T, r []uint64, root int, want ...int) {
	t.Helper()
	if l, e := Doms(r, root); !slices.Equal(l, want) || e != api.OK {
		t.Fatalf("Doms(%x, %d) = %d, %d, want %d", r, root, l, e, want)
	}
}

// wantOver tests the result of Over.
func wantOver(t *testing.T, r []uint64, root, n int, want ...int) {
	t.Helper()
	if l, e := Over(r, root, n); !slices.Equal(l, want) || e != api.OK {
		t.Fatalf("Over(%x, %d, %d) = %d, %d, want %d", r, root, n, l, e, want)
	}
}

// wantRules tests the result of Rules.
func wantRules(t *testing.T, r []uint64, root, a, b int, want bool) {
	t.Helper()
	if is, e := Rules(r, root, a, b); is != want || e != api.OK {
		t.Fatalf("Rules(%x, %d, %d, %d) = %t, %d, want %t", r, root, a, b, is, e, want)
	}
}

// wantAll compares the results for this root with the definitions, where over has the set of the dominators of each number.
func wantAll(t *testing.T, r []uint64, root int, over []uint64) {
	t.Helper()
	doms := make([]int, len(r))
	for n, s := range over {
		doms[n] = immediate(t, over, n)
		for a := range r {
			wantRules(t, r, root, a, n, s>>a&1 == 1)
		}
		l, e := Over(r, root, n)
		if set(l...) != s || len(l) != bits.OnesCount64(s) || e != api.OK {
			t.Fatalf("Over(%x, %d, %d) = %d, %d, want %x", r, root, n, l, e, s)
		}
		for i := range l {
			first, last := i == 0, i == len(l)-1
			if first && l[i] != root || last && l[i] != n || !last && over[l[i+1]]>>l[i]&1 == 0 {
				t.Fatalf("Over(%x, %d, %d) = %d", r, root, n, l)
			}
		}
	}
	wantDoms(t, r, root, doms...)
}

// immediate returns the immediate dominator of n, or -1: of its dominators except itself, the one that all others of them dominate.
func immediate(t *testing.T, over []uint64, n int) int {
	t.Helper()
	others, found := over[n]&^(1<<n), -1
	for d := range over {
		if others>>d&1 == 0 || others&^over[d] != 0 {
			continue
		}
		if found >= 0 {
			t.Fatalf("both %d and %d are immediate dominators of %d", found, d, n)
		}
		found = d
	}
	if (found < 0) != (others == 0) {
		t.Fatalf("%d has the dominators %x, but none of them is immediate", n, others)
	}
	return found
}

// walks calls f with the end and the numbers of each walk from start that has at most max steps.
func walks(r []uint64, start, max int, f func(end int, numbers uint64)) {
	var walk func(end, steps int, numbers uint64)
	walk = func(end, steps int, numbers uint64) {
		numbers |= 1 << end
		f(end, numbers)
		for n := 0; n < len(r) && steps < max; n++ {
			if r[end]>>n&1 == 1 {
				walk(n, steps+1, numbers)
			}
		}
	}
	walk(start, 0, 0)
}

// overByWalks returns the dominators of each number: the numbers that are in every walk to it, if there is a walk.
func overByWalks(r []uint64, root int) []uint64 {
	over := make([]uint64, len(r))
	found := uint64(0)
	// A walk without a can leave out what it does between two visits of a number, so that it needs no more steps than that.
	walks(r, root, len(r)-1, func(end int, numbers uint64) {
		if found>>end&1 == 0 {
			over[end] = numbers
		}
		over[end] &= numbers
		found |= 1 << end
	})
	return over
}

// overByNeeds returns the dominators of each number: itself, and what dominates all reachable numbers that need it.
func overByNeeds(r []uint64, root int) []uint64 {
	reached := uint64(1) << root
	for range r {
		for n, row := range r {
			if reached>>n&1 == 1 {
				reached |= row
			}
		}
	}
	over := make([]uint64, len(r))
	for n := range r {
		if reached>>n&1 == 1 {
			over[n] = reached
		}
	}
	over[root] = 1 << root
	for changed := true; changed; {
		changed = false
		for n := range r {
			s := over[n]
			for from, row := range r {
				if n != root && reached>>from&1 == 1 && row>>n&1 == 1 {
					s &= over[from] | 1<<n
				}
			}
			changed = changed || s != over[n]
			over[n] = s
		}
	}
	return over
}

func TestTheNumberOfRows(t *testing.T) {
	for n := range 130 {
		r := make([]uint64, n)
		if n > 64 {
			wantError(t, r, api.ErrLarge)
			continue
		}
		none := slices.Repeat([]int{-1}, n)
		for root := range n {
			wantDoms(t, r, root, none...)
			wantOver(t, r, root, root, root)
			wantRules(t, r, root, root, root, true)
		}
	}
}

func TestNoRows(t *testing.T) {
	// There is no root that has a row.
	wantError(t, nil, api.ErrRange)
	wantError(t, []uint64{}, api.ErrRange)
}

func TestNumbersWithoutARowInRows(t *testing.T) {
	for n := 1; n < 64; n++ {
		for number := n; number < 64; number++ {
			r := make([]uint64, n)
			r[number%n] = 1 << number
			wantError(t, r, api.ErrRange)
		}
	}
	wantError(t, []uint64{2}, api.ErrRange)
	// A row that is not reachable counts too.
	wantError(t, []uint64{2, 0, 8}, api.ErrRange)
	wantError(t, slices.Repeat([]uint64{all}, 63), api.ErrRange)
}

func TestNumbersWithoutARow(t *testing.T) {
	for n := 1; n <= 64; n++ {
		r := circle(n)
		for _, wrong := range []int{math.MinInt, -64, -1, n, n + 1, 64, 65, 128, math.MaxInt} {
			wantDomsError(t, r, wrong, api.ErrRange)
			for _, right := range []int{0, n - 1} {
				wantOverError(t, r, wrong, right, api.ErrRange)
				wantOverError(t, r, right, wrong, api.ErrRange)
				wantRulesError(t, r, wrong, right, right, api.ErrRange)
				wantRulesError(t, r, right, wrong, right, api.ErrRange)
				wantRulesError(t, r, right, right, wrong, api.ErrRange)
			}
			wantOverError(t, r, wrong, wrong, api.ErrRange)
			wantRulesError(t, r, wrong, wrong, wrong, api.ErrRange)
		}
	}
	// Also where the number would not be reachable.
	wantOverError(t, []uint64{0, 1}, 0, 2, api.ErrRange)
	wantRulesError(t, []uint64{0, 1}, 0, 1, 2, api.ErrRange)
	wantRulesError(t, []uint64{0, 1}, 0, 2, 1, api.ErrRange)
}

func TestTheOrderOfTheErrors(t *testing.T) {
	// The rows have numbers without a row, and numbers are passed that have none, but first of all there are too many rows.
	wantError(t, slices.Repeat([]uint64{all}, 65), api.ErrLarge)
	wantError(t, slices.Repeat([]uint64{all}, 1000), api.ErrLarge)
	wantError(t, circle(65), api.ErrLarge)
}

func TestTheExample(t *testing.T) {
	r := graph(4, "0>1 0>2 1>3 2>3")
	wantDoms(t, r, 0, -1, 0, 0, 0)
	wantOver(t, r, 0, 3, 0, 3)
	wantRules(t, r, 0, 0, 3, true)
	wantRules(t, r, 0, 1, 3, false)
	wantRules(t, r, 0, 2, 3, false)
	wantRules(t, r, 0, 3, 3, true)
}

func TestDominators(t *testing.T) {
	for _, c := range []struct {
		n, root int
		s       string
		doms    []int
	}{
		{1, 0, "", []int{-1}},
		{1, 0, "0>0", []int{-1}},
		{2, 0, "0>1 1>0", []int{-1, 0}},
		{2, 1, "0>1 1>0", []int{1, -1}},
		{3, 0, "0>1 1>2 0>2", []int{-1, 0, 0}},
		{3, 2, "2>1 1>0", []int{1, 2, -1}},
		// What is not reachable has no dominators, and what it needs is not reached by it.
		{3, 1, "0>2 1>2", []int{-1, -1, 1}},
		{4, 1, "0>3 1>2 2>3", []int{-1, -1, 1, 2}},
		{4, 3, "0>1 1>2 2>0", []int{-1, -1, -1, -1}},
		// Walks back to the root, and to other numbers that have been passed, make no difference.
		{4, 0, "0>1 1>2 2>3 3>0 3>1 2>2", []int{-1, 0, 1, 2}},
		{4, 2, "0>1 1>2 2>3 3>0 3>1 2>2", []int{3, 3, -1, 2}},
		// Two ways meet again, and once more.
		{7, 0, "0>1 0>2 1>3 2>3 3>4 3>5 4>6 5>6", []int{-1, 0, 0, 0, 3, 3, 3}},
		{7, 6, "6>5 6>4 5>3 4>3 3>2 3>1 2>0 1>0", []int{3, 3, 3, 6, 6, 6, -1}},
		// A cycle with two entries has no dominator in it.
		{4, 0, "0>1 0>2 1>2 2>1 2>3", []int{-1, 0, 0, 2}},
		{5, 0, "0>1 0>3 1>2 2>1 2>3 3>2 3>4", []int{-1, 0, 0, 0, 3}},
		// A way past a number is found late only.
		{6, 0, "0>1 1>2 2>3 3>4 0>5 5>4", []int{-1, 0, 1, 2, 0, 0}},
		{6, 0, "0>1 1>2 2>3 3>4 1>5 5>3", []int{-1, 0, 1, 1, 3, 1}},
		// The order of the dominators is not that of the numbers.
		{5, 3, "3>1 1>4 4>0 0>2", []int{4, 3, 0, -1, 1}},
	} {
		r := graph(c.n, c.s)
		wantDoms(t, r, c.root, c.doms...)
		wantAll(t, r, c.root, overByWalks(r, c.root))
	}
	wantOver(t, graph(5, "3>1 1>4 4>0 0>2"), 3, 2, 3, 1, 4, 0, 2)
	wantOver(t, graph(6, "5>1 5>0 1>4 0>4 4>2 2>3"), 5, 3, 5, 4, 2, 3)
}

func TestTheRoot(t *testing.T) {
	smallGraphs(3, func(r []uint64) {
		for root := range r {
			wantOver(t, r, root, root, root)
			for n := range r {
				wantRules(t, r, root, n, root, n == root)
			}
			if l, e := Doms(r, root); len(l) != len(r) || l[root] != -1 || e != api.OK {
				t.Fatalf("Doms(%x, %d) = %d, %d", r, root, l, e)
			}
		}
	})
}

func TestNumbersThatAreNotReachable(t *testing.T) {
	for n := 2; n <= 64; n++ {
		// All numbers but the root need all numbers.
		r := slices.Repeat([]uint64{all >> (64 - n)}, n)
		for root := range n {
			needs := r[root]
			r[root] = 1 << root
			wantDoms(t, r, root, slices.Repeat([]int{-1}, n)...)
			other := (root + 1) % n
			wantOver(t, r, root, other)
			wantRules(t, r, root, other, other, false)
			wantRules(t, r, root, root, other, false)
			wantRules(t, r, root, other, root, false)
			r[root] = needs
		}
	}
}

func TestAPathOfAllNumbers(t *testing.T) {
	for n := 1; n <= 64; n++ {
		for root := 0; root < n; root += 1 + n/3 {
			var doms, over []int
			for k := range n {
				if k < root {
					doms = append(doms, -1)
					wantOver(t, path(n), root, k)
					continue
				}
				doms, over = append(doms, k-1), append(over, k)
				wantOver(t, path(n), root, k, over...)
			}
			doms[root] = -1
			wantDoms(t, path(n), root, doms...)
		}
	}
}

func TestACircleOfAllNumbers(t *testing.T) {
	for n := 1; n <= 64; n++ {
		for root := 0; root < n; root += 1 + n/3 {
			doms := make([]int, n)
			var over []int
			for i := range n {
				k := (root + i) % n
				doms[k], over = (k+n-1)%n, append(over, k)
				wantOver(t, circle(n), root, k, over...)
			}
			doms[root] = -1
			wantDoms(t, circle(n), root, doms...)
		}
	}
}

func TestAllEdges(t *testing.T) {
	r := slices.Repeat([]uint64{all}, 64)
	for root := range 64 {
		doms := slices.Repeat([]int{root}, 64)
		doms[root] = -1
		wantDoms(t, r, root, doms...)
		for n := range 64 {
			if n != root {
				wantOver(t, r, root, n, root, n)
			}
			for a := range 64 {
				wantRules(t, r, root, a, n, a == root || a == n)
			}
		}
	}
}

func TestAllSmallGraphs(t *testing.T) {
	count := 0
	smallGraphs(4, func(r []uint64) {
		for root := range r {
			count++
			wantAll(t, r, root, overByWalks(r, root))
		}
	})
	if count != 2+2*16+3*512+4*65536 {
		t.Errorf("%d graphs and roots", count)
	}
}

func TestManyGraphs(t *testing.T) {
	deep, past := 0, 0
	manyGraphs(func(r []uint64) {
		for root := 0; root < len(r); root += 1 + len(r)/4 {
			over := overByNeeds(r, root)
			wantAll(t, r, root, over)
			for n, s := range over {
				if bits.OnesCount64(s) > 3 {
					deep++
				}
				// There are numbers on the way that are no dominators.
				if s != 0 && s>>root&1 == 1 && s != set(root, n) && r[root]>>n&1 == 0 {
					past++
				}
			}
		}
	})
	if deep < 100 || past < 100 {
		t.Errorf("only %d numbers have more than three dominators, and only %d have some besides themselves and the root", deep, past)
	}
}

func TestArgumentsAreNotModified(t *testing.T) {
	for _, r := range [][]uint64{
		graph(6, "0>1 1>2 2>1 3>0 4>4 5>3"),
		graph(6, "5>4 4>3 3>2 2>1 1>0"),
		slices.Repeat([]uint64{63}, 6),
		circle(6),
	} {
		want := slices.Clone(r)
		for n := range len(r) + 1 {
			part := r[:n]
			for root := range n {
				Doms(part, root)
				for a := range n {
					Over(part, root, a)
					for b := range n {
						Rules(part, root, a, b)
					}
				}
			}
		}
		if !slices.Equal(r, want) {
			t.Errorf("the rows are %x, want %x", r, want)
		}
	}
}

func TestResultsAreNewMemory(t *testing.T) {
	r := path(5)
	for i, f := range []func() ([]int, api.Errno){
		func() ([]int, api.Errno) { return Doms(r, 0) },
		func() ([]int, api.Errno) { return Over(r, 0, 4) },
	} {
		first, _ := f()
		want := slices.Clone(first)
		clear(first[:cap(first)])
		if second, e := f(); !slices.Equal(second, want) || e != api.OK {
			t.Errorf("function %d kept its result: %d, %d, want %d", i, second, e, want)
		}
	}
	// Other rows, in the same memory, have other results.
	copy(r, circle(5))
	r[0] = 0
	wantDoms(t, r, 0, -1, -1, -1, -1, -1)
	wantOver(t, r, 0, 4)
	wantRules(t, r, 0, 0, 4, false)
}
