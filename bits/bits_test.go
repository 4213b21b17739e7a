package bits

import (
	"math"
	"slices"
	"testing"

	"millwright/api"
)

const full = uint64(math.MaxUint64)

// sampleSets returns sets of all densities, with both ends of the range among them.
func sampleSets() []uint64 {
	l := []uint64{0, 1, 2, 3, 5, 1 << 31, 1 << 32, 1 << 62, 1 << 63, 3 << 62, 1<<63 | 1, full - 1, full >> 1, full}
	x := uint64(0x9E3779B97F4A7C15)
	for range 40 {
		x ^= x << 13
		x ^= x >> 7
		x ^= x << 17
		l = append(l, x, x&(x<<11), x|(x>>5), x&(x>>9)&(x<<20))
	}
	return l
}

// sampleNumbers returns every number near the range and the extreme ones.
func sampleNumbers() []int {
	l := []int{math.MinInt, math.MinInt + 1, math.MinInt32, -1000, math.MaxInt32, math.MaxInt - 1, math.MaxInt, 1 << 32, 1<<32 + 1, 1000}
	for n := -70; n <= 200; n++ {
		l = append(l, n)
	}
	return l
}

// members lists the numbers of s by the definition of a set.
func members(s uint64) []int {
	var l []int
	for n := range 64 {
		if s>>n&1 == 1 {
			l = append(l, n)
		}
	}
	return l
}

func TestOfOrdinary(t *testing.T) {
	for _, c := range []struct {
		l    []int
		want uint64
	}{
		{nil, 0},
		{[]int{}, 0},
		{[]int{0}, 1},
		{[]int{63}, 1 << 63},
		{[]int{32}, 1 << 32},
		{[]int{3, 1, 3, 1, 3}, 0b1010},
		{[]int{63, 0, 31, 32}, 1<<63 | 1 | 3<<31},
	} {
		if s, e := Of(c.l); s != c.want || e != api.OK {
			t.Errorf("Of(%v) = %#x, %d, want %#x", c.l, s, e, c.want)
		}
	}
}

func TestOfLongList(t *testing.T) {
	var l []int
	for i := range 1000 {
		l = append(l, (i*37)%64)
	}
	if s, e := Of(l); s != full || e != api.OK {
		t.Errorf("Of(every number many times) = %#x, %d", s, e)
	}
}

func TestOfOutOfRange(t *testing.T) {
	for _, n := range sampleNumbers() {
		if n >= 0 && n < 64 {
			continue
		}
		for _, l := range [][]int{{n}, {n, 1}, {1, n}, {1, n, 2}} {
			if s, e := Of(l); s != 0 || e != api.ErrRange {
				t.Errorf("Of(%v) = %#x, %d, want 0 and ErrRange", l, s, e)
			}
		}
	}
}

func TestListAndCount(t *testing.T) {
	for _, s := range sampleSets() {
		want := members(s)
		if l := List(s); !slices.Equal(l, want) {
			t.Errorf("List(%#x) = %v, want %v", s, l, want)
		}
		if n := Count(s); n != len(want) {
			t.Errorf("Count(%#x) = %d, want %d", s, n, len(want))
		}
	}
}

func TestOfReadsListBack(t *testing.T) {
	for _, s := range sampleSets() {
		if back, e := Of(List(s)); back != s || e != api.OK {
			t.Errorf("Of(List(%#x)) = %#x, %d", s, back, e)
		}
	}
}

func TestBelow(t *testing.T) {
	for _, n := range sampleNumbers() {
		got, e := Below(n)
		if n < 0 || n > 64 {
			if got != 0 || e != api.ErrRange {
				t.Errorf("Below(%d) = %#x, %d, want 0 and ErrRange", n, got, e)
			}
			continue
		}
		want := uint64(0)
		for i := range n {
			want |= 1 << i
		}
		if got != want || e != api.OK {
			t.Errorf("Below(%d) = %#x, %d, want %#x", n, got, e, want)
		}
	}
}

func TestNext(t *testing.T) {
	for _, s := range sampleSets() {
		l := members(s)
		for _, n := range sampleNumbers() {
			want, found := 0, false
			if i := slices.IndexFunc(l, func(m int) bool { return m >= n }); i >= 0 {
				want, found = l[i], true
			}
			if got, ok := Next(s, n); got != want || ok != found {
				t.Errorf("Next(%#x, %d) = %d, %v, want %d, %v", s, n, got, ok, want, found)
			}
		}
	}
}

func TestNth(t *testing.T) {
	for _, s := range sampleSets() {
		l := members(s)
		for _, k := range sampleNumbers() {
			want, found := 0, false
			if k >= 0 && k < len(l) {
				want, found = l[k], true
			}
			if got, ok := Nth(s, k); got != want || ok != found {
				t.Errorf("Nth(%#x, %d) = %d, %v, want %d, %v", s, k, got, ok, want, found)
			}
		}
	}
}

func TestRank(t *testing.T) {
	for _, s := range sampleSets() {
		for _, n := range sampleNumbers() {
			want := 0
			for _, m := range members(s) {
				if m < n {
					want++
				}
			}
			if got := Rank(s, n); got != want {
				t.Errorf("Rank(%#x, %d) = %d, want %d", s, n, got, want)
			}
		}
	}
}

func TestSubOfTheDocument(t *testing.T) {
	for _, c := range []struct {
		t, want uint64
		ok      bool
	}{{0, 1, true}, {1, 4, true}, {4, 5, true}, {5, 0, false}} {
		if u, ok := Sub(5, c.t); u != c.want || ok != c.ok {
			t.Errorf("Sub(5, %d) = %d, %v, want %d, %v", c.t, u, ok, c.want, c.ok)
		}
	}
}

// TestSubSmall compares with a search through all sets, at both ends of the word.
func TestSubSmall(t *testing.T) {
	const width = 7
	for s := range uint64(1 << width) {
		for x := range uint64(1 << width) {
			want, found := uint64(0), false
			for u := x + 1; u < 1<<width && !found; u++ {
				if u&^s == 0 {
					want, found = u, true
				}
			}
			for _, up := range []int{0, 29, 64 - width} {
				if u, ok := Sub(s<<up, x<<up); u != want<<up || ok != found {
					t.Fatalf("Sub(%#x, %#x) = %#x, %v, want %#x, %v", s<<up, x<<up, u, ok, want<<up, found)
				}
			}
		}
	}
}

// leastAbove finds the answer of Sub by trying each number that may be the first in which it exceeds x.
func leastAbove(s, x uint64) (uint64, bool) {
	for p := range 64 {
		bit := uint64(1) << p
		above := x &^ (bit | (bit - 1))
		if s&bit != 0 && x&bit == 0 && above&^s == 0 {
			return above | bit, true
		}
	}
	return 0, false
}

func TestSubWide(t *testing.T) {
	sets := sampleSets()
	for _, s := range sets {
		for _, x := range sets {
			want, found := leastAbove(s, x)
			if u, ok := Sub(s, x); u != want || ok != found {
				t.Fatalf("Sub(%#x, %#x) = %#x, %v, want %#x, %v", s, x, u, ok, want, found)
			}
		}
	}
}

func TestSubEnds(t *testing.T) {
	for _, s := range sampleSets() {
		for _, x := range []uint64{s, full} {
			if u, ok := Sub(s, x); u != 0 || ok {
				t.Errorf("Sub(%#x, %#x) = %#x, %v, want 0, false", s, x, u, ok)
			}
		}
	}
	if u, ok := Sub(full, full-1); u != full || !ok {
		t.Errorf("Sub(full, full-1) = %#x, %v", u, ok)
	}
	if u, ok := Sub(0, 0); u != 0 || ok {
		t.Errorf("Sub(0, 0) = %#x, %v", u, ok)
	}
}

func TestSubEnumeratesAll(t *testing.T) {
	const s = 1<<63 | 1<<40 | 1<<7 | 1
	seen := []uint64{0}
	for u, ok := Sub(s, 0); ok; u, ok = Sub(s, u) {
		if u&^uint64(s) != 0 || u <= seen[len(seen)-1] {
			t.Fatalf("%#x after %#x", u, seen)
		}
		seen = append(seen, u)
	}
	if len(seen) != 16 {
		t.Errorf("%d subsets of a set of 4", len(seen))
	}
}

func TestEven(t *testing.T) {
	if got := Even(1<<1 | 1<<3); got != 1<<1|1<<2 {
		t.Errorf("Even({1, 3}) = %v, want {1, 2}", members(got))
	}
	for _, s := range sampleSets() {
		want, odd := uint64(0), false
		for n := range 64 {
			if s>>n&1 == 1 {
				odd = !odd
			}
			if odd {
				want |= 1 << n
			}
		}
		if got := Even(s); got != want {
			t.Errorf("Even(%#x) = %#x, want %#x", s, got, want)
		}
	}
}

func TestOfLeavesItsArgument(t *testing.T) {
	for _, inside := range [][]int{{5, 1, 5}, {5, 99, 1}, {}} {
		whole := append(slices.Clone(inside), 77, 78, 79)
		before := slices.Clone(whole)
		first, e := Of(whole[:len(inside)])
		if !slices.Equal(whole, before) {
			t.Errorf("Of changed %v to %v", before, whole)
		}
		again, f := Of(whole[:len(inside)])
		if first != again || e != f {
			t.Errorf("Of(%v) differs from call to call", inside)
		}
	}
}

func TestListIsNewMemory(t *testing.T) {
	for _, s := range sampleSets() {
		first, second := List(s), List(s)
		for i := range first[:cap(first)] {
			first[:cap(first)][i] = -7
		}
		if !slices.Equal(second, members(s)) || !slices.Equal(List(s), members(s)) {
			t.Errorf("List(%#x) shares memory with another result", s)
		}
	}
}
