package span

import (
	"cmp"
	"fmt"
	"math"
	"slices"
	"testing"

	"millwright/api"
)

// ascending has the bits of values of every kind, in the order that the document describes.
var ascending = []uint64{
	0xffffffffffffffff, // NaNs with a sign
	0xfff8000000000001,
	0xfff8000000000000,
	0xfff7ffffffffffff,
	0xfff0000000000001,
	0xfff0000000000000, // -Inf
	0xffefffffffffffff,
	0xc340000000000001, // just beyond -2^53
	0xc340000000000000, // -2^53
	0xc000000000000000, // -2
	0xbff0000000000001,
	0xbff0000000000000, // -1
	0x8010000000000000,
	0x800fffffffffffff,
	0x8000000000000001,
	0x8000000000000000, // -0
	0x0000000000000000, // 0
	0x0000000000000001,
	0x000fffffffffffff,
	0x0010000000000000,
	0x3ff0000000000000, // 1
	0x3ff0000000000001,
	0x4000000000000000, // 2
	0x4340000000000000, // 2^53
	0x4340000000000001, // just beyond 2^53
	0x7fefffffffffffff,
	0x7ff0000000000000, // +Inf
	0x7ff0000000000001, // NaNs without a sign
	0x7ff7ffffffffffff,
	0x7ff8000000000000,
	0x7ff8000000000001,
	0x7fffffffffffffff,
}

func ofBits(l ...uint64) []float64 {
	var values []float64
	for _, u := range l {
		values = append(values, math.Float64frombits(u))
	}
	return values
}

func toBits(l []float64) []uint64 {
	var words []uint64
	for _, x := range l {
		words = append(words, math.Float64bits(x))
	}
	return words
}

// mixedBits returns n words without a visible order, from a fixed start.
func mixedBits(n int) []uint64 {
	var l []uint64
	x := uint64(0x9E3779B97F4A7C15)
	for range n {
		x ^= x << 13
		x ^= x >> 7
		x ^= x << 17
		l = append(l, x)
	}
	return l
}

func sampleBits() []uint64 { return append(mixedBits(200), ascending...) }

// orderByDefinition follows the wording of the document.
func orderByDefinition(a, b uint64) int {
	const sign = 1 << 63
	aSigned, bSigned := a&sign != 0, b&sign != 0
	aRest, bRest := int64(a&^sign), int64(b&^sign)
	switch {
	case a == b:
		return 0
	case aSigned != bSigned:
		if aSigned {
			return -1
		}
		return 1
	case (aRest < bRest) != aSigned:
		return -1
	}
	return 1
}

func TestRight(t *testing.T) {
	const infinity = 0x7ff0000000000000
	for _, u := range sampleBits() {
		// The bits of 0 are the smallest word, and the numbers follow up to infinity.
		want := u <= infinity
		if got := Right(math.Float64frombits(u)); got != want {
			t.Errorf("Right(%#x) = %v", u, got)
		}
	}
}

func TestOrderOfEveryKind(t *testing.T) {
	for i, a := range ascending {
		for k, b := range ascending {
			got := Order(math.Float64frombits(a), math.Float64frombits(b))
			if got != cmp.Compare(i, k) {
				t.Errorf("Order(%#x, %#x) = %d", a, b, got)
			}
		}
	}
}

func TestOrderOfMixedBits(t *testing.T) {
	l := sampleBits()
	for _, a := range l {
		for _, b := range l {
			got := Order(math.Float64frombits(a), math.Float64frombits(b))
			if want := orderByDefinition(a, b); got != want {
				t.Fatalf("Order(%#x, %#x) = %d, want %d", a, b, got, want)
			}
		}
	}
}

func TestSum(t *testing.T) {
	minusZero, infinity := math.Copysign(0, -1), math.Inf(1)
	third, tenth, fifth := 0.3, 0.1, 0.2
	for _, c := range []struct {
		name string
		l    []float64
		want float64
	}{
		{"nil", nil, 0},
		{"empty", []float64{}, 0},
		{"one", []float64{1.5}, 1.5},
		{"several", []float64{1, 2, 3.5, -0.5}, 6},
		{"-0 is added to 0", []float64{minusZero}, 0},
		{"several -0", []float64{minusZero, minusZero}, 0},
		{"opposites", []float64{-1, 1}, 0},
		{"rounded", []float64{tenth, fifth}, tenth + fifth},
		{"from left to right", []float64{tenth, fifth, third}, (tenth + fifth) + third},
		{"from left to right, lost", []float64{1e16, 1, 1, -1e16}, 0},
		{"from left to right, kept", []float64{1, 1, 1e16, -1e16}, 2},
		{"one is lost", []float64{1 << 53, 1}, 1 << 53},
		{"smallest", []float64{5e-324, 5e-324}, 1e-323},
		{"overflow", []float64{math.MaxFloat64, math.MaxFloat64}, infinity},
		{"overflow stays", []float64{math.MaxFloat64, math.MaxFloat64, -math.MaxFloat64}, infinity},
		{"infinity", []float64{1, infinity, -5, infinity}, infinity},
		{"negative infinity", []float64{1, math.Inf(-1)}, math.Inf(-1)},
	} {
		if got := Sum(c.l); math.Float64bits(got) != math.Float64bits(c.want) {
			t.Errorf("%s: Sum(%v) = %v, want %v", c.name, c.l, got, c.want)
		}
	}
}

func TestSumRoundsEachStep(t *testing.T) {
	l := make([]float64, 10)
	for i := range l {
		l[i] = 0.1
	}
	// Ten times 0.1 is 1 if it is rounded once only.
	if got := Sum(l); got != 0.9999999999999999 {
		t.Errorf("Sum(ten times 0.1) = %v", got)
	}
}

func TestSumThatIsNaN(t *testing.T) {
	const want = 0x7ff8000000000001
	var lists [][]float64
	for _, u := range ascending {
		x := math.Float64frombits(u)
		if math.IsNaN(x) {
			lists = append(lists, []float64{x}, []float64{1, x}, []float64{x, math.Inf(1)}, []float64{x, x, 2})
		}
	}
	lists = append(lists, []float64{math.Inf(1), math.Inf(-1)}, []float64{math.Inf(-1), 3, math.Inf(1), 4})
	lists = append(lists, []float64{math.MaxFloat64, math.MaxFloat64, math.Inf(-1)})
	for _, l := range lists {
		if got := math.Float64bits(Sum(l)); got != want {
			t.Errorf("Sum(%x) = %#x", toBits(l), got)
		}
	}
}

func TestSortOfEveryKind(t *testing.T) {
	n := len(ascending)
	// Steps that have no divisor in common with n visit every value once.
	for _, step := range []int{1, 3, 5, 7, n - 1} {
		var l []uint64
		for i := range n {
			l = append(l, ascending[i*step%n])
		}
		if got := toBits(Sort(ofBits(l...))); !slices.Equal(got, ascending) {
			t.Errorf("Sort in steps of %d = %x", step, got)
		}
	}
}

func TestSortOfMixedBits(t *testing.T) {
	for _, n := range []int{0, 1, 2, 3, 11, 12, 13, 100, 3000} {
		l := mixedBits(n)
		l = append(l, l[:n/2]...)
		want := slices.Clone(l)
		slices.SortFunc(want, orderByDefinition)
		if got := toBits(Sort(ofBits(l...))); !slices.Equal(got, want) {
			t.Errorf("Sort of %d values is not sorted, or not of the same values", len(l))
		}
	}
}

func TestSortOfNothing(t *testing.T) {
	if l := Sort(nil); len(l) != 0 {
		t.Error(l)
	}
	if l := Sort([]float64{}); len(l) != 0 {
		t.Error(l)
	}
}

func TestMost(t *testing.T) {
	lists := [][]uint64{ascending, mixedBits(1), mixedBits(50), sampleBits()}
	for i := range ascending {
		lists = append(lists, ascending[:i+1], ascending[i:])
	}
	for _, l := range lists {
		for _, words := range [][]uint64{l, reversed(l), append(reversed(l), l...)} {
			want := slices.MaxFunc(words, orderByDefinition)
			if got := math.Float64bits(Most(ofBits(words...))); got != want {
				t.Errorf("Most(%x) = %#x, want %#x", words, got, want)
			}
		}
	}
	for _, l := range [][]float64{nil, {}} {
		if got := math.Float64bits(Most(l)); got != 0 {
			t.Errorf("Most of nothing = %#x", got)
		}
	}
}

func reversed(l []uint64) []uint64 {
	r := slices.Clone(l)
	slices.Reverse(r)
	return r
}

func TestWhole(t *testing.T) {
	const limit = 1 << 53
	for _, c := range []struct {
		x    float64
		want int64
	}{
		{0, 0},
		{math.Copysign(0, -1), 0},
		{5e-324, 0},
		{-5e-324, 0},
		{0.5, 0},
		{-0.5, 0},
		{math.Nextafter(1, 0), 0},
		{math.Nextafter(-1, 0), 0},
		{1, 1},
		{1.5, 1},
		{2.5, 2},
		{-1.5, -1},
		{-2.999, -2},
		{1 << 31, 1 << 31},
		{-1<<40 - 0.5, -1 << 40},
		{1<<52 - 0.5, 1<<52 - 1},
		{limit - 1, limit - 1},
		{limit, limit},
		{1 - limit, 1 - limit},
		{-limit, -limit},
	} {
		if n, e := Whole(c.x); n != c.want || e != api.OK {
			t.Errorf("Whole(%v) = %d, %d, want %d", c.x, n, e, c.want)
		}
	}
}

func TestWholeOutOfRange(t *testing.T) {
	values := []float64{1<<53 + 2, -1<<53 - 2, 1 << 62, 1 << 63, -1 << 63, -1 << 62, 1 << 64, 1e300, -1e300, math.MaxFloat64, math.Inf(1), math.Inf(-1)}
	for _, u := range ascending {
		if x := math.Float64frombits(u); math.IsNaN(x) {
			values = append(values, x)
		}
	}
	for _, x := range values {
		if n, e := Whole(x); n != 0 || e != api.ErrRange {
			t.Errorf("Whole(%v) = %d, %d, want 0 and ErrRange", x, n, e)
		}
	}
}

func TestText(t *testing.T) {
	if s := Text(1); s != "3ff0000000000000" {
		t.Errorf("Text(1) = %q", s)
	}
	for _, u := range append(sampleBits(), 0x0123456789abcdef, 0xfedcba9876543210) {
		want := fmt.Sprintf("%016x", u)
		if s := Text(math.Float64frombits(u)); s != want {
			t.Errorf("Text(%#x) = %q", u, s)
		}
	}
}

func TestReadIsTheInverseOfText(t *testing.T) {
	for _, u := range append(sampleBits(), 0x0123456789abcdef, 0xfedcba9876543210) {
		s := fmt.Sprintf("%016x", u)
		x, e := Read(s)
		if math.Float64bits(x) != u || e != api.OK {
			t.Errorf("Read(%q) = %#x, %d", s, math.Float64bits(x), e)
		}
		if back := Text(x); back != s {
			t.Errorf("Text(Read(%q)) = %q", s, back)
		}
	}
}

func TestReadOfEveryByte(t *testing.T) {
	const plain = "3ff0000000000000"
	for at := range plain {
		for c := range 256 {
			s := plain[:at] + string([]byte{byte(c)}) + plain[at+1:]
			x, e := Read(s)
			if c >= '0' && c <= '9' || c >= 'a' && c <= 'f' {
				if e != api.OK || Text(x) != s {
					t.Errorf("Read(%q) = %v, %d", s, x, e)
				}
			} else if math.Float64bits(x) != 0 || e != api.ErrForm {
				t.Errorf("Read(%q) = %v, %d, want 0 and ErrForm", s, x, e)
			}
		}
	}
}

func TestReadOfInvalidTexts(t *testing.T) {
	for _, s := range []string{
		"", "0", "1", "3ff", "3ff000000000000", "3ff00000000000000", "03ff0000000000000",
		"0x3ff00000000000", "0x3ff0000000000000", " 3ff000000000000", "3ff0000000000000 ", "3ff0000000000000\n",
		"3FF0000000000000", "3fF0000000000000", "-ff0000000000000", "3ff_000000000000", "Inf", "NaN",
		"3ff00000000000000000000000000000", "\u0663ff0000000000000", "\u0663ff000000000000", "3ff000000000000\x00", "\xff\xfe",
	} {
		if x, e := Read(s); math.Float64bits(x) != 0 || e != api.ErrForm {
			t.Errorf("Read(%q) = %v, %d, want 0 and ErrForm", s, x, e)
		}
	}
}

func TestListsAreNotModified(t *testing.T) {
	words := append(reversed(ascending), mixedBits(20)...)
	whole := ofBits(words...)
	for n := range len(words) {
		Sum(whole[:n])
		Most(whole[:n])
		sorted := Sort(whole[:n])
		for i := range sorted[:cap(sorted)] {
			sorted[:cap(sorted)][i] = -7
		}
		if got := toBits(whole); !slices.Equal(got, words) {
			t.Fatalf("a call with %d values changed %x to %x", n, words, got)
		}
	}
}

func TestSortIsNewMemory(t *testing.T) {
	l := ofBits(ascending...)
	first, second := Sort(l), Sort(l)
	for i := range first[:cap(first)] {
		first[:cap(first)][i] = -7
	}
	for i := range l {
		l[i] = 9
	}
	if got := toBits(second); !slices.Equal(got, ascending) {
		t.Errorf("a result of Sort shares memory: %x", got)
	}
}
