package graph

import (
	"math/bits"
	"slices"
	"strconv"
	"strings"
	"testing"

	"millwright/api"
)

// longName is a name of the greatest length.
const longName = "abcdefghijklmnopqrstuvwxyz0123456789_+-x"

// invalidNames has strings that are not names, each for another reason.
var invalidNames = []string{"", " ", "a b", "a\t", "a:", "a=b", "$(a)", "a*", "a\n", "a\x00", "a\\", "\u00e9.o", "\xff", longName + "x"}

// words returns the words in s.
func words(s string) []string { return strings.Fields(s) }

// edges returns the edges that s describes, such as "0>1 2>0", without any check.
func edges(s string) []api.Edge {
	var l []api.Edge
	for _, x := range words(s) {
		from, to, _ := strings.Cut(x, ">")
		a, _ := strconv.Atoi(from)
		b, _ := strconv.Atoi(to)
		l = append(l, api.Edge{From: a, To: b})
	}
	return l
}

// graph returns the graph with these parts, without any check.
func graph(names, needs string, phony, made uint64) api.Graph {
	return api.Graph{Names: words(names), Edges: edges(needs), Phony: phony, Made: made}
}

// shown returns the graph as one string, in which different graphs look different.
func shown(g api.Graph) string {
	var s strings.Builder
	for _, x := range g.Names {
		s.WriteString(strconv.Quote(x) + " ")
	}
	for _, x := range g.Edges {
		s.WriteString(strconv.Itoa(x.From) + ">" + strconv.Itoa(x.To) + " ")
	}
	s.WriteString("phony " + strconv.FormatUint(g.Phony, 2) + " made " + strconv.FormatUint(g.Made, 2))
	return s.String()
}

func equal(a, b api.Graph) bool { return shown(a) == shown(b) }

// numbered returns n distinct names that begin with s, in increasing order.
func numbered(s string, n int) []string {
	var l []string
	for i := range n {
		l = append(l, s+strconv.Itoa(1000+i))
	}
	return l
}

// full returns the graph of n names in which every number needs every number.
func full(n int) api.Graph {
	g := api.Graph{Names: numbered("n", n)}
	for i := range n {
		g.Phony |= 1 << i
		for k := range n {
			g.Edges = append(g.Edges, api.Edge{From: i, To: k})
		}
	}
	g.Made = g.Phony
	return g
}

// smallGraphs calls f with every graph of up to three names, and the set of its numbers.
func smallGraphs(f func(g api.Graph, all uint64)) {
	for n := range 4 {
		possible := full(n).Edges
		for chosen := range uint64(1) << len(possible) {
			g := api.Graph{Names: words("a b.c d/e")[:n]}
			for i, x := range possible {
				if chosen>>i&1 == 1 {
					g.Edges = append(g.Edges, x)
				}
			}
			size := uint64(1) << n
			for sets := range size * size {
				g.Phony, g.Made = sets%size, sets/size
				f(g, size-1)
			}
		}
	}
}

// needs reports whether the graph has the edge.
func needs(g api.Graph, from, to int) bool {
	return slices.Contains(g.Edges, api.Edge{From: from, To: to})
}

// wantError tests that all functions return this error for the graph, and nothing else.
func wantError(t *testing.T, g api.Graph, want api.Errno) {
	t.Helper()
	if e := Check(g); e != want {
		t.Errorf("Check(%.300s) = %d, want %d", shown(g), e, want)
	}
	if rows, e := Rows(g); len(rows) != 0 || e != want {
		t.Errorf("Rows(%.300s) = %v, %d, want %d", shown(g), rows, e, want)
	}
	if u, e := Turn(g); !equal(u, api.Graph{}) || e != want {
		t.Errorf("Turn(%.300s) = %s, %d, want %d", shown(g), shown(u), e, want)
	}
	for _, s := range []uint64{0, 1, 1 << 63, 1<<64 - 1} {
		if u, e := Part(g, s); !equal(u, api.Graph{}) || e != want {
			t.Errorf("Part(%.300s, %x) = %s, %d, want %d", shown(g), s, shown(u), e, want)
		}
	}
	for _, s := range []string{"a", "z", "", "n1000"} {
		if n, e := Number(g, s); n != 0 || e != want {
			t.Errorf("Number(%.300s, %q) = %d, %d, want %d", shown(g), s, n, e, want)
		}
	}
}

func TestCheck(t *testing.T) {
	for _, g := range []api.Graph{
		{},
		{Names: []string{}, Edges: []api.Edge{}},
		graph("a", "", 0, 0),
		graph("a", "0>0", 1, 1),
		graph("a b", "0>1", 0, 1),
		graph("a b", "1>0", 2, 0),
		graph("a b c", "0>1 0>2 1>0 1>1 2>0 2>1", 5, 7),
		graph("+ -a .b /c 0 A _ a a.a a/ aa az b", "0>12 12>0", 1<<12, 1),
		{Names: []string{longName}},
		{Names: numbered("n", 64)},
		full(1), full(2), full(63), full(64),
	} {
		if e := Check(g); e != api.OK {
			t.Errorf("Check(%.300s) = %d", shown(g), e)
		}
	}
}

func TestCheckUpToTheNumberOfNames(t *testing.T) {
	for n := range 200 {
		g := api.Graph{Names: numbered("n", n)}
		if n > 64 {
			wantError(t, g, api.ErrLarge)
		} else if e := Check(g); e != api.OK {
			t.Errorf("Check of %d names = %d", n, e)
		}
	}
}

func TestCheckOfNames(t *testing.T) {
	for _, bad := range invalidNames {
		wantError(t, api.Graph{Names: []string{bad}}, api.ErrForm)
		for at := range 4 {
			wantError(t, api.Graph{Names: slices.Insert(words("a b c"), at, bad)}, api.ErrForm)
		}
	}
	for _, s := range []string{"a a", "b a", "a b b", "a c b", "b c a", "a B", "aa a", "a9 a10", "c b a", "a b c d a"} {
		wantError(t, graph(s, "", 0, 0), api.ErrForm)
	}
}

func TestCheckOfEdges(t *testing.T) {
	for _, s := range []string{
		"0>3", "3>0", "3>3", "-1>0", "0>-1", "-1>-1", "0>64", "64>0", "0>0 0>3", "0>0 3>0", "0>-1 0>0", "-1>0 0>0",
		"0>9223372036854775807", "9223372036854775807>0", "-9223372036854775808>0", "0>-9223372036854775808",
	} {
		wantError(t, graph("a b c", s, 0, 0), api.ErrRange)
	}
	for _, s := range []string{
		"0>0 0>0", "0>1 0>0", "1>0 0>1", "1>1 0>0", "1>0 0>2", "2>0 0>0", "0>0 0>1 0>1", "0>0 1>0 0>1", "0>2 0>1 1>0", "0>0 0>1 1>2 1>2", "0>1 1>2 1>0 2>0",
	} {
		wantError(t, graph("a b c", s, 0, 0), api.ErrForm)
	}
	for n := range 64 {
		g := api.Graph{Names: numbered("n", n)}
		for _, x := range []api.Edge{{From: 0, To: n}, {From: n, To: 0}, {From: n, To: n}, {From: -1, To: 0}} {
			g.Edges = []api.Edge{x}
			wantError(t, g, api.ErrRange)
		}
	}
}

func TestCheckOfSets(t *testing.T) {
	for n := range 65 {
		g := api.Graph{Names: numbered("n", n)}
		for i := range 64 {
			want := api.OK
			if i >= n {
				want = api.ErrRange
			}
			g.Phony, g.Made = 1<<i, 0
			if e := Check(g); e != want {
				t.Errorf("Check of %d names and the phony %d = %d, want %d", n, i, e, want)
			}
			g.Phony, g.Made = 0, 1<<i
			if e := Check(g); e != want {
				t.Errorf("Check of %d names and the made %d = %d, want %d", n, i, e, want)
			}
		}
	}
	wantError(t, graph("", "", 1, 0), api.ErrRange)
	wantError(t, graph("", "", 0, 1), api.ErrRange)
	wantError(t, graph("a b", "0>1", 4, 1), api.ErrRange)
	wantError(t, graph("a b", "0>1", 1, 4), api.ErrRange)
	wantError(t, graph("a b", "0>1", 1<<64-1, 1<<64-1), api.ErrRange)
}

func TestTheOrderOfTheErrors(t *testing.T) {
	many := numbered("n", 65)
	duplicate, outside, backward := edges("0>1 0>1"), edges("0>1 0>1 7>0"), edges("1>0 0>1")
	for _, c := range []struct {
		g    api.Graph
		want api.Errno
	}{
		{api.Graph{Names: make([]string, 65)}, api.ErrLarge},
		{api.Graph{Names: slices.Repeat([]string{"a"}, 65)}, api.ErrLarge},
		{api.Graph{Names: many, Edges: edges("0>65"), Phony: 1}, api.ErrLarge},
		{api.Graph{Names: many, Edges: duplicate}, api.ErrLarge},
		{api.Graph{Names: append([]string{""}, many...), Edges: edges("-1>0")}, api.ErrLarge},
		{api.Graph{Names: make([]string, 64), Edges: edges("0>64"), Phony: 1}, api.ErrForm},
		{graph("a b*", "0>2", 0, 0), api.ErrForm},
		{graph("a b*", "", 4, 4), api.ErrForm},
		{graph("b a", "0>2", 0, 0), api.ErrForm},
		{graph("a a", "", 4, 4), api.ErrForm},
		// A wrong number comes before a wrong order, wherever it is.
		{api.Graph{Names: words("a b"), Edges: outside}, api.ErrRange},
		{api.Graph{Names: words("a b"), Edges: append(slices.Clone(backward), api.Edge{From: 0, To: 2})}, api.ErrRange},
		{api.Graph{Names: words("a b"), Edges: duplicate, Phony: 4}, api.ErrForm},
		{api.Graph{Names: words("a b"), Edges: duplicate, Made: 4}, api.ErrForm},
		{api.Graph{Names: words("a b"), Edges: backward, Phony: 1 << 63}, api.ErrForm},
		{api.Graph{Names: words("a b"), Edges: edges("0>1"), Made: 4}, api.ErrRange},
	} {
		wantError(t, c.g, c.want)
	}
}

func TestCheckOfAllListsOfNames(t *testing.T) {
	choices := []string{"", "a", "b", "ab", "a b"}
	var try func(l []string)
	try = func(l []string) {
		want := api.OK
		for i, s := range l {
			if s == "" || s == "a b" || i > 0 && l[i-1] >= s {
				want = api.ErrForm
			}
		}
		if e := Check(api.Graph{Names: l}); e != want {
			t.Errorf("Check of the names %q = %d, want %d", l, e, want)
		}
		for i := 0; i < len(choices) && len(l) < 4; i++ {
			try(append(l[:len(l):len(l)], choices[i]))
		}
	}
	try(nil)
}

func TestCheckOfAllListsOfEdges(t *testing.T) {
	names := words("a b")
	var try func(l []api.Edge)
	try = func(l []api.Edge) {
		want := api.OK
		for i, x := range l {
			// Both numbers of a valid edge are 0 or 1, so that this is its place among the four.
			if i > 0 && 2*l[i-1].From+l[i-1].To >= 2*x.From+x.To {
				want = api.ErrForm
			}
		}
		if slices.ContainsFunc(l, func(x api.Edge) bool { return x.From < 0 || x.From > 1 || x.To < 0 || x.To > 1 }) {
			want = api.ErrRange
		}
		if e := Check(api.Graph{Names: names, Edges: l}); e != want {
			t.Errorf("Check of the edges %v = %d, want %d", l, e, want)
		}
		for i := 0; i < 16 && len(l) < 4; i++ {
			try(append(l[:len(l):len(l)], api.Edge{From: i/4 - 1, To: i%4 - 1}))
		}
	}
	try(nil)
}

func TestRows(t *testing.T) {
	for _, c := range []struct {
		g    api.Graph
		want []uint64
	}{
		{api.Graph{}, nil},
		{graph("a", "", 0, 0), []uint64{0}},
		{graph("a", "0>0", 1, 1), []uint64{1}},
		{graph("a b", "0>1", 0, 1), []uint64{2, 0}},
		{graph("a b", "1>0", 3, 0), []uint64{0, 1}},
		{graph("a b c d", "0>1 0>2 1>3 2>3", 1, 7), []uint64{6, 8, 8, 0}},
		{full(64), slices.Repeat([]uint64{1<<64 - 1}, 64)},
	} {
		if rows, e := Rows(c.g); !slices.Equal(rows, c.want) || e != api.OK {
			t.Errorf("Rows(%.300s) = %v, %d, want %v", shown(c.g), rows, e, c.want)
		}
	}
	g := api.Graph{Names: numbered("n", 64), Edges: edges("0>63 31>32 63>0 63>63")}
	want := make([]uint64, 64)
	want[0], want[31], want[63] = 1<<63, 1<<32, 1<<63|1
	if rows, e := Rows(g); !slices.Equal(rows, want) || e != api.OK {
		t.Errorf("Rows = %x, %d", rows, e)
	}
}

func TestTurn(t *testing.T) {
	for _, c := range []struct{ before, after string }{
		{"", ""}, {"0>0", "0>0"}, {"0>1", "1>0"}, {"2>1", "1>2"}, {"0>1 1>0", "0>1 1>0"},
		{"0>1 0>2 1>3 2>3", "1>0 2>0 3>1 3>2"}, {"0>3 1>2 2>0 3>3", "0>2 2>1 3>0 3>3"}, {"0>3 1>3 2>3", "3>0 3>1 3>2"},
	} {
		for sets := range uint64(256) {
			g := graph("a b c d", c.before, sets%16, sets/16)
			if u, e := Turn(g); !equal(u, graph("a b c d", c.after, sets%16, sets/16)) || e != api.OK {
				t.Errorf("Turn(%s) = %s, %d", shown(g), shown(u), e)
			}
		}
	}
	if u, e := Turn(api.Graph{}); !equal(u, api.Graph{}) || e != api.OK {
		t.Errorf("Turn of no names = %s, %d", shown(u), e)
	}
	if u, e := Turn(full(64)); !equal(u, full(64)) || e != api.OK {
		t.Errorf("Turn of all edges = %.300s, %d", shown(u), e)
	}
	g := api.Graph{Names: numbered("n", 64), Edges: edges("0>63 31>32 62>63"), Phony: 1 << 63, Made: 1}
	if u, e := Turn(g); !slices.Equal(u.Edges, edges("32>31 63>0 63>62")) || u.Phony != 1<<63 || u.Made != 1 || e != api.OK {
		t.Errorf("Turn of 64 names = %s, %d", shown(u), e)
	}
}

func TestPart(t *testing.T) {
	g := graph("a b c d", "0>1 0>2 1>3 2>3", 1, 7)
	for s, want := range map[uint64]api.Graph{
		0:  {},
		1:  graph("a", "", 1, 1),
		2:  graph("b", "", 0, 1),
		8:  graph("d", "", 0, 0),
		9:  graph("a d", "", 1, 1),
		10: graph("b d", "0>1", 0, 1),
		13: graph("a c d", "0>1 1>2", 1, 3),
		14: graph("b c d", "0>2 1>2", 0, 3),
		7:  graph("a b c", "0>1 0>2", 1, 7),
		15: g,
	} {
		if u, e := Part(g, s); !equal(u, want) || e != api.OK {
			t.Errorf("Part(%x) = %s, %d, want %s", s, shown(u), e, shown(want))
		}
	}
	if u, e := Part(full(64), 1<<64-1); !equal(u, full(64)) || e != api.OK {
		t.Errorf("Part of all 64 names = %.300s, %d", shown(u), e)
	}
	last := api.Graph{Names: numbered("n", 64)[63:], Edges: edges("0>0"), Phony: 1, Made: 1}
	if u, e := Part(full(64), 1<<63); !equal(u, last) || e != api.OK {
		t.Errorf("Part of the last name = %s, %d", shown(u), e)
	}
}

func TestPartOfNumbersWithoutAName(t *testing.T) {
	for n := range 65 {
		g := api.Graph{Names: numbered("n", n)}
		for i := range 64 {
			for _, s := range []uint64{1 << i, 1<<i | 1, 1<<i | 1<<(i/2)} {
				u, e := Part(g, s)
				if bits.Len64(s) > n && (!equal(u, api.Graph{}) || e != api.ErrRange) {
					t.Errorf("Part(%d names, %x) = %s, %d, want ErrRange", n, s, shown(u), e)
				}
				if bits.Len64(s) <= n && (len(u.Names) != bits.OnesCount64(s) || e != api.OK) {
					t.Errorf("Part(%d names, %x) = %s, %d", n, s, shown(u), e)
				}
			}
		}
	}
}

func TestNumber(t *testing.T) {
	g := graph("B a ab b", "0>1", 1, 2)
	for i, s := range g.Names {
		if n, e := Number(g, s); n != i || e != api.OK {
			t.Errorf("Number(%q) = %d, %d, want %d", s, n, e, i)
		}
	}
	for _, s := range append(words("A b. c aa abc bb zz"), invalidNames...) {
		if n, e := Number(g, s); n != 0 || e != api.ErrNone {
			t.Errorf("Number(%q) = %d, %d, want ErrNone", s, n, e)
		}
		if n, e := Number(api.Graph{}, s); n != 0 || e != api.ErrNone {
			t.Errorf("Number(%q) in no names = %d, %d, want ErrNone", s, n, e)
		}
	}
	for i, s := range full(64).Names {
		if n, e := Number(full(64), s); n != i || e != api.OK {
			t.Errorf("Number(%q) = %d, %d, want %d", s, n, e, i)
		}
	}
}

// wantSame tests that u has the names with these numbers of g, and exactly the edges that edge reports for their numbers.
func wantSame(t *testing.T, g, u api.Graph, numbers []int, edge func(from, to int) bool) {
	t.Helper()
	if e := Check(u); e != api.OK || len(u.Names) != len(numbers) {
		t.Fatalf("%s became %s, which has the error %d", shown(g), shown(u), e)
	}
	for i, from := range numbers {
		if u.Names[i] != g.Names[from] || u.Phony>>i&1 != g.Phony>>from&1 || u.Made>>i&1 != g.Made>>from&1 {
			t.Fatalf("%s became %s: the number %d differs", shown(g), shown(u), i)
		}
		for k, to := range numbers {
			if needs(u, i, k) != edge(from, to) {
				t.Fatalf("%s became %s: the edge from %d to %d differs", shown(g), shown(u), i, k)
			}
		}
	}
}

func TestAllSmallGraphs(t *testing.T) {
	count := 0
	smallGraphs(func(g api.Graph, all uint64) {
		count++
		rows, e := Rows(g)
		if len(rows) != len(g.Names) || e != api.OK || Check(g) != api.OK {
			t.Fatalf("Rows(%s) = %v, %d", shown(g), rows, e)
		}
		var numbers []int
		for i := range g.Names {
			numbers = append(numbers, i)
			for k := range 64 {
				if (rows[i]>>k&1 == 1) != needs(g, i, k) {
					t.Fatalf("Rows(%s) = %v", shown(g), rows)
				}
			}
		}
		u, e := Turn(g)
		if e != api.OK {
			t.Fatalf("Turn(%s) = %d", shown(g), e)
		}
		wantSame(t, g, u, numbers, func(from, to int) bool { return needs(g, to, from) })
		for s := range all + 1 {
			var some []int
			for _, n := range numbers {
				if s>>n&1 == 1 {
					some = append(some, n)
				}
			}
			u, e := Part(g, s)
			if e != api.OK {
				t.Fatalf("Part(%s, %x) = %d", shown(g), s, e)
			}
			wantSame(t, g, u, some, func(from, to int) bool { return needs(g, from, to) })
			if u, e := Part(g, s|(all+1)); !equal(u, api.Graph{}) || e != api.ErrRange {
				t.Fatalf("Part(%s, %x) = %s, %d", shown(g), s|(all+1), shown(u), e)
			}
		}
	})
	if count != 1+2*4+16*16+512*64 {
		t.Errorf("only %d graphs", count)
	}
}

// overwrite changes all memory of the graph, also beyond the lengths of its lists.
func overwrite(g api.Graph) {
	for i := range g.Names[:cap(g.Names)] {
		g.Names[:cap(g.Names)][i] = "overwritten"
	}
	for i := range g.Edges[:cap(g.Edges)] {
		g.Edges[:cap(g.Edges)][i] = api.Edge{From: 7, To: 9}
	}
}

func TestArgumentsAreNotModified(t *testing.T) {
	names, l := words("a b c d z y"), edges("0>1 0>2 1>3 2>3 9>9 8>8")
	for n := range 5 {
		for k := range 5 {
			g := api.Graph{Names: names[:n], Edges: l[:k], Phony: 1, Made: 7}
			Check(g)
			Rows(g)
			Turn(g)
			for s := range uint64(32) {
				Part(g, s)
			}
			Number(g, "c")
		}
	}
	if !slices.Equal(names, words("a b c d z y")) || !slices.Equal(l, edges("0>1 0>2 1>3 2>3 9>9 8>8")) {
		t.Errorf("the names are %q and the edges %v", names, l)
	}
}

func TestResultsAreNewMemory(t *testing.T) {
	build := func() api.Graph { return graph("a b c d", "0>1 0>2 1>3 2>3", 1, 7) }
	for i, f := range []func(g api.Graph) (api.Graph, api.Errno){
		Turn,
		func(g api.Graph) (api.Graph, api.Errno) { return Part(g, 15) },
		func(g api.Graph) (api.Graph, api.Errno) { return Part(g, 11) },
	} {
		g := build()
		first, e := f(g)
		want := shown(first)
		if e != api.OK {
			t.Fatalf("function %d has the error %d", i, e)
		}
		overwrite(first)
		if !equal(g, build()) {
			t.Errorf("function %d returned a part of its argument: %s", i, shown(g))
		}
		second, _ := f(g)
		overwrite(g)
		if shown(second) != want {
			t.Errorf("function %d kept its argument: %s, want %s", i, shown(second), want)
		}
	}
	g := build()
	rows, _ := Rows(g)
	clear(rows[:cap(rows)])
	again, _ := Rows(g)
	overwrite(g)
	if !slices.Equal(again, []uint64{6, 8, 8, 0}) {
		t.Errorf("Rows kept its argument or its result: %v", again)
	}
}
