package name

import (
	"fmt"
	"slices"
	"strings"
	"testing"

	"millwright/api"
)

// allowed has every byte of names, in increasing order.
const allowed = "+-./0123456789ABCDEFGHIJKLMNOPQRSTUVWXYZ_abcdefghijklmnopqrstuvwxyz"

// invalid has strings that are not names, each for another reason.
var invalid = []string{
	"", strings.Repeat("x", 41), strings.Repeat("x", 5000), " ", "a b", " a", "a ", "a\tb", "a\n", "\x00", "a\x00",
	"a:", "$(a)", "a=b", "a#b", "a\\b", "a*b", "a,b", "\xe9", "\u00e9", "a\u0301", "\u0661", "a\xff", "\u212a", "\u017f",
}

// numbered returns n distinct names, in increasing order.
func numbered(n int) []string {
	var l []string
	for i := range n {
		l = append(l, fmt.Sprintf("n%04d", i))
	}
	return l
}

// shuffled returns the strings of l in an order without a visible rule.
func shuffled(l []string) []string {
	mixed := slices.Clone(l)
	x := uint64(0x9E3779B97F4A7C15)
	for i := len(mixed) - 1; i > 0; i-- {
		x ^= x << 13
		x ^= x >> 7
		x ^= x << 17
		k := int(x % uint64(i+1))
		mixed[i], mixed[k] = mixed[k], mixed[i]
	}
	return mixed
}

// distinct returns what the document says of Sort, by the smallest string greater than the last one.
func distinct(l []string) []string {
	var sorted []string
	last := ""
	for {
		next := ""
		for _, s := range l {
			if s > last && (next == "" || s < next) {
				next = s
			}
		}
		if next == "" {
			return sorted
		}
		sorted = append(sorted, next)
		last = next
	}
}

func TestCheckOfEveryByte(t *testing.T) {
	for c := range 256 {
		b := string([]byte{byte(c)})
		want := api.ErrForm
		if strings.Contains(allowed, b) {
			want = api.OK
		}
		for _, s := range []string{b, b + "a", "a" + b, "a" + b + "a", strings.Repeat("x", 39) + b, b + strings.Repeat("x", 39)} {
			if e := Check(s); e != want {
				t.Errorf("Check(%q) = %d, want %d", s, e, want)
			}
		}
	}
}

func TestCheckOfEveryLength(t *testing.T) {
	for n := range 300 {
		want := api.OK
		if n < 1 || n > 40 {
			want = api.ErrForm
		}
		if e := Check(strings.Repeat("a", n)); e != want {
			t.Errorf("Check of %d bytes = %d, want %d", n, e, want)
		}
	}
}

func TestCheckOfNames(t *testing.T) {
	for _, s := range []string{"a", "lib/x.o", "/", ".", "..", "//", "-", "+", "_", "9", "a/../b", "a//b", "/a/", "...", "c++", "-f", "A-Z_0.9", allowed[:40], allowed[27:]} {
		if e := Check(s); e != api.OK {
			t.Errorf("Check(%q) = %d", s, e)
		}
	}
}

func TestCheckOfInvalidStrings(t *testing.T) {
	for _, s := range invalid {
		if e := Check(s); e != api.ErrForm {
			t.Errorf("Check(%q) = %d, want ErrForm", s, e)
		}
	}
}

func TestSort(t *testing.T) {
	for _, c := range []struct{ l, want []string }{
		{nil, nil},
		{[]string{}, nil},
		{[]string{"a"}, []string{"a"}},
		{[]string{"a", "a", "a"}, []string{"a"}},
		{[]string{"b", "a"}, []string{"a", "b"}},
		{[]string{"a", "b", "a"}, []string{"a", "b"}},
		{[]string{"ab", "b", "a", "aa", "a."}, []string{"a", "a.", "aa", "ab", "b"}},
		{[]string{"a10", "a9", "a1"}, []string{"a1", "a10", "a9"}},
		{[]string{"a", "B", "b", "A"}, []string{"A", "B", "a", "b"}},
		{[]string{"a/b", "a-b", "a.b", "a+b", "a_b", "a0b"}, []string{"a+b", "a-b", "a.b", "a/b", "a0b", "a_b"}},
	} {
		if l, e := Sort(c.l); !slices.Equal(l, c.want) || e != api.OK {
			t.Errorf("Sort(%q) = %q, %d, want %q", c.l, l, e, c.want)
		}
	}
}

func TestSortInByteOrder(t *testing.T) {
	want := strings.Split(allowed, "")
	if l, e := Sort(shuffled(want)); !slices.Equal(l, want) || e != api.OK {
		t.Errorf("Sort of all bytes = %q, %d", l, e)
	}
}

func TestSortOfManyNames(t *testing.T) {
	for _, n := range []int{2, 12, 13, 63, 64, 65, 100, 1000} {
		want := numbered(n)
		l := shuffled(append(slices.Clone(want), want[:n/2]...))
		if got, e := Sort(l); !slices.Equal(got, want) || e != api.OK {
			t.Errorf("Sort of %d names with repetitions has %d, error %d", len(l), len(got), e)
		}
	}
}

func TestSortOfInvalidLists(t *testing.T) {
	for _, bad := range invalid {
		for at := range 4 {
			l := slices.Insert([]string{"b", "a", "b"}, at, bad)
			if got, e := Sort(l); len(got) != 0 || e != api.ErrForm {
				t.Errorf("Sort(%q) = %q, %d, want ErrForm", l, got, e)
			}
		}
		if got, e := Sort(append(numbered(100), bad)); len(got) != 0 || e != api.ErrForm {
			t.Errorf("Sort of 100 names and %q = %q, %d, want ErrForm", bad, got, e)
		}
	}
}

func TestMerge(t *testing.T) {
	for _, c := range []struct{ a, b, want []string }{
		{nil, nil, nil},
		{[]string{}, nil, nil},
		{[]string{"a"}, nil, []string{"a"}},
		{nil, []string{"a"}, []string{"a"}},
		{[]string{"b", "a", "b"}, nil, []string{"a", "b"}},
		{[]string{}, []string{"b", "a", "b"}, []string{"a", "b"}},
		{[]string{"a", "c"}, []string{"b", "d"}, []string{"a", "b", "c", "d"}},
		{[]string{"d", "c"}, []string{"a", "b"}, []string{"a", "b", "c", "d"}},
		{[]string{"b", "a", "b"}, []string{"c", "b", "c"}, []string{"a", "b", "c"}},
		{[]string{"a", "B"}, []string{"A", "a/", "a"}, []string{"A", "B", "a", "a/"}},
	} {
		if l, e := Merge(c.a, c.b); !slices.Equal(l, c.want) || e != api.OK {
			t.Errorf("Merge(%q, %q) = %q, %d, want %q", c.a, c.b, l, e, c.want)
		}
	}
}

func TestMergeOfAllSplits(t *testing.T) {
	l := shuffled(append(numbered(40), numbered(30)...))
	want := distinct(l)
	for n := range len(l) + 1 {
		if got, e := Merge(l[:n], l[n:]); !slices.Equal(got, want) || e != api.OK {
			t.Errorf("Merge of %d and %d names = %q, %d", n, len(l)-n, got, e)
		}
	}
}

func TestMergeUpToTheLimit(t *testing.T) {
	for _, n := range []int{63, 64, 65, 66, 128, 1000} {
		names := numbered(n)
		for _, at := range []int{0, 1, n / 2, n - 1, n} {
			// Repetitions, within a list and between the two, do not count.
			a := shuffled(append(slices.Clone(names[:at]), names[:at]...))
			b := shuffled(append(slices.Clone(names[at:]), names[:n/3]...))
			got, e := Merge(a, b)
			if n <= 64 && (!slices.Equal(got, names) || e != api.OK) {
				t.Errorf("Merge of %d distinct names = %q, %d", n, got, e)
			}
			if n > 64 && (len(got) != 0 || e != api.ErrLarge) {
				t.Errorf("Merge of %d distinct names = %q, %d, want ErrLarge", n, got, e)
			}
		}
	}
}

func TestMergeOfManyRepetitions(t *testing.T) {
	names := numbered(64)
	l := slices.Repeat(names, 20)
	if got, e := Merge(l, l); !slices.Equal(got, names) || e != api.OK {
		t.Errorf("Merge of 64 names, each many times = %q, %d", got, e)
	}
}

func TestMergeOfInvalidLists(t *testing.T) {
	few, many := []string{"b", "a"}, numbered(70)
	for _, bad := range invalid {
		for _, c := range [][2][]string{
			{{bad}, nil},
			{nil, {bad}},
			{{bad}, {bad}},
			{append([]string{bad}, few...), few},
			{append(slices.Clone(few), bad), few},
			{few, append([]string{bad}, few...)},
			{few, append(slices.Clone(few), bad)},
			// A string that is not a name comes before too many of them.
			{append(slices.Clone(many), bad), nil},
			{many, {bad}},
			{{bad}, many},
			{nil, append(slices.Clone(many), bad)},
		} {
			if got, e := Merge(c[0], c[1]); len(got) != 0 || e != api.ErrForm {
				t.Errorf("Merge(%q, %q) = %q, %d, want ErrForm", c[0], c[1], got, e)
			}
		}
	}
}

func TestFindInListsOfEveryLength(t *testing.T) {
	for n := range 70 {
		// Between any two strings of the list there is one that it does not contain.
		all := numbered(2*n + 1)
		var l []string
		for i := range n {
			l = append(l, all[2*i+1])
		}
		for i, s := range all {
			want, there := 0, i%2 == 1
			if there {
				want = i / 2
			}
			if got, ok := Find(l, s); got != want || ok != there {
				t.Errorf("Find(%q, %q) = %d, %v, want %d, %v", l, s, got, ok, want, there)
			}
		}
	}
}

func TestFindOfAnyString(t *testing.T) {
	// The lists need not consist of names.
	l := []string{"", "\x00", " ", "A", "a", "a ", "a.o", "ab", strings.Repeat("b", 50), "\xc3\xa9", "\xff"}
	for want, s := range l {
		if i, ok := Find(l, s); i != want || !ok {
			t.Errorf("Find(l, %q) = %d, %v, want %d", s, i, ok, want)
		}
	}
	for _, s := range []string{"B", "a.", "a.o ", "b", "\x01", "\xc3", "\xff\xff", strings.Repeat("b", 49), strings.Repeat("b", 51)} {
		if i, ok := Find(l, s); i != 0 || ok {
			t.Errorf("Find(l, %q) = %d, %v, want 0, false", s, i, ok)
		}
	}
	for _, s := range []string{"", "a", "\xff"} {
		if i, ok := Find(nil, s); i != 0 || ok {
			t.Errorf("Find(nil, %q) = %d, %v", s, i, ok)
		}
	}
}

func TestFindInListsThatAreNotIncreasing(t *testing.T) {
	for _, l := range [][]string{{"b", "a"}, {"a", "a"}, {"c", "a", "b", "a"}, {"", ""}, shuffled(numbered(50))} {
		for _, s := range append([]string{"", "a", "b", "z"}, l...) {
			i, ok := Find(l, s)
			if k, again := Find(slices.Clone(l), s); i != k || ok != again {
				t.Errorf("Find(%q, %q) differs from call to call", l, s)
			}
		}
	}
}

func TestStem(t *testing.T) {
	for _, c := range [][3]string{
		{"", "", ""},
		{"a", "a", ""},
		{"a.o", "a", ".o"},
		{"a.b.c", "a.b", ".c"},
		{"a.", "a", "."},
		{"a..", "a.", "."},
		{"a..o", "a.", ".o"},
		{".", ".", ""},
		{"..", ".", "."},
		{"...", "..", "."},
		{".o", ".o", ""},
		{".a.o", ".a", ".o"},
		{"/", "/", ""},
		{"src/a.c", "src/a", ".c"},
		{"src/.c", "src/.c", ""},
		{"src/..c", "src/.", ".c"},
		{"src/.a.c", "src/.a", ".c"},
		{"src.d/a", "src.d/a", ""},
		{"src.d/.c", "src.d/.c", ""},
		{"src.d/a.c", "src.d/a", ".c"},
		{"src.d/", "src.d/", ""},
		{"a.b/c.d/e", "a.b/c.d/e", ""},
		{"a.b/c.d/e.f.g", "a.b/c.d/e.f", ".g"},
		{"/.", "/.", ""},
		{"/.o", "/.o", ""},
		{"/a.o", "/a", ".o"},
		{"a/..", "a/.", "."},
		{"c++.o-2_x+", "c++", ".o-2_x+"},
	} {
		if stem, suffix := Stem(c[0]); stem != c[1] || suffix != c[2] {
			t.Errorf("Stem(%q) = %q, %q, want %q, %q", c[0], stem, suffix, c[1], c[2])
		}
	}
}

// stemByDefinition follows the wording of the document.
func stemByDefinition(s string) (string, string) {
	dot, slash := -1, -1
	for i := range len(s) {
		switch s[i] {
		case '.':
			dot = i
		case '/':
			slash = i
		}
	}
	if dot < 0 || dot == 0 || slash >= 0 && (dot < slash || dot == slash+1) {
		return s, ""
	}
	return s[:dot], s[dot:]
}

func TestStemOfAllShortNames(t *testing.T) {
	names := []string{""}
	for from, length := 0, 0; length < 8; length++ {
		to := len(names)
		for _, s := range names[from:to] {
			names = append(names, s+"a", s+".", s+"/")
		}
		from = to
	}
	for _, s := range names {
		stem, suffix := Stem(s)
		if a, b := stemByDefinition(s); stem != a || suffix != b {
			t.Errorf("Stem(%q) = %q, %q, want %q, %q", s, stem, suffix, a, b)
		}
	}
}

func TestStemOfStringsThatAreNotNames(t *testing.T) {
	for _, c := range [][3]string{
		{"a b.c d", "a b", ".c d"},
		{"\xff.\xff", "\xff", ".\xff"},
		{"a\x00", "a\x00", ""},
		{strings.Repeat("x", 50) + ".o", strings.Repeat("x", 50), ".o"},
	} {
		if stem, suffix := Stem(c[0]); stem != c[1] || suffix != c[2] {
			t.Errorf("Stem(%q) = %q, %q, want %q, %q", c[0], stem, suffix, c[1], c[2])
		}
	}
}

// overwrite changes every string that l has room for.
func overwrite(l []string) {
	for i := range l[:cap(l)] {
		l[:cap(l)][i] = "overwritten"
	}
}

func TestListsAreNotModified(t *testing.T) {
	invalidWords := []string{"c", "b", "a", "b", "", "d", "c", "c", "e e", "a"}
	for _, words := range [][]string{invalidWords, {"c", "b", "a", "b", "a", "d"}, numbered(70), shuffled(numbered(70))} {
		whole := slices.Clone(words)
		for n := range len(words) + 1 {
			sorted, _ := Sort(whole[:n])
			overwrite(sorted)
			for _, c := range [][2][]string{{whole[:n], whole[n:]}, {whole[n:], whole[:n]}, {whole[:n], nil}, {nil, whole[:n]}, {whole[:n], {"x", "y"}}} {
				merged, _ := Merge(c[0], c[1])
				overwrite(merged)
			}
			Find(whole[:n], "b")
			if !slices.Equal(whole, words) {
				t.Fatalf("a call with %d strings changed %q to %q", n, words, whole)
			}
		}
	}
}

func TestResultsAreNewMemory(t *testing.T) {
	names := numbered(20)
	for _, call := range []func([]string) ([]string, api.Errno){
		Sort,
		func(l []string) ([]string, api.Errno) { return Merge(l, nil) },
		func(l []string) ([]string, api.Errno) { return Merge(nil, l) },
		func(l []string) ([]string, api.Errno) { return Merge(l, l) },
	} {
		l := slices.Clone(names)
		first, _ := call(l)
		second, _ := call(l)
		overwrite(first)
		overwrite(l)
		if !slices.Equal(second, names) {
			t.Errorf("a result shares memory: %q", second)
		}
	}
}
