package graph

import (
	"slices"
	"strings"
	"testing"

	"millwright/api"
	"millwright/file"
	"millwright/infer"
)

// load returns the makefile with these lines.
func load(t *testing.T, lines ...string) api.File {
	t.Helper()
	f, e := file.Load(strings.Join(lines, "\n"), nil)
	if e != api.OK {
		t.Fatalf("Load(%q) = %d", lines, e)
	}
	return f
}

// rules returns the rules of the lines, each of which has one colon, without any check.
func rules(lines ...string) []api.Rule {
	var l []api.Rule
	for _, s := range lines {
		targets, needs, _ := strings.Cut(s, ":")
		l = append(l, api.Rule{Targets: words(targets), Needs: words(needs)})
	}
	return l
}

// subsets calls f with every part of l, in the order of l.
func subsets(l []string, f func(some []string)) {
	for chosen := range 1 << len(l) {
		var some []string
		for i, s := range l {
			if chosen>>i&1 == 1 {
				some = append(some, s)
			}
		}
		f(some)
	}
}

// wantGraph tests that Make returns this graph, for the files in both orders, and that it is valid.
func wantGraph(t *testing.T, want api.Graph, there string, lines ...string) {
	t.Helper()
	files := words(there)
	for range 2 {
		g, e := Make(load(t, lines...), files)
		if !equal(g, want) || e != api.OK || Check(g) != api.OK {
			t.Errorf("Make(%q, %q) = %s, %d, want %s", lines, files, shown(g), e, shown(want))
		}
		slices.Reverse(files)
	}
}

func TestMake(t *testing.T) {
	wantGraph(t, api.Graph{}, "")
	wantGraph(t, graph("a b", "0>1", 0, 1), "", "a : b")
	wantGraph(t, graph("a b", "1>0", 0, 2), "", "b : a")
	wantGraph(t, graph("a", "", 0, 1), "", "a :")
	wantGraph(t, graph("a", "0>0", 0, 1), "", "a : a")
	wantGraph(t, graph("a b c d", "0>2 0>3 1>2 1>3", 0, 3), "", "b a : d c")
	// Several rules for a target, and several targets and needs.
	wantGraph(t, graph("a b c d", "0>1 0>2 0>3 1>2", 0, 3), "", "a : d", "b a : c", "a : b c d")
	wantGraph(t, graph("a b c", "0>1 1>2 2>0", 0, 7), "", "c : a", "b : c", "a : b")
	// Names are ordered by their bytes.
	wantGraph(t, graph("B a a10 a9 b", "1>0 1>2 1>3 1>4", 0, 2), "", "a : b a9 a10 B")
	// Macros are no names of the graph.
	wantGraph(t, graph("p q", "0>1", 0, 1), "", "x = q", "y = z", "p : $(x)")
}

func TestMakeOfPhonyNames(t *testing.T) {
	wantGraph(t, graph("a", "", 1, 0), "", ".PHONY : a")
	wantGraph(t, graph("a b c", "", 7, 0), "", ".PHONY : c a b")
	wantGraph(t, graph("a b", "0>1", 1, 1), "", ".PHONY : a", "a : b")
	wantGraph(t, graph("a b", "0>1", 2, 1), "", ".PHONY : b", "a : b")
	wantGraph(t, graph("a b", "0>1", 3, 1), "", ".PHONY : b a", "a : b")
	wantGraph(t, graph("a b z", "0>1", 4, 1), "", "a : b", ".PHONY : z")
	wantGraph(t, graph(".PHONY 0 b c z", "2>3", 1|2|16, 4), "", ".PHONY : z 0 .PHONY", "b : c")
	// A phony name is neither a file nor a need, so nothing is inferred for it or from it.
	wantGraph(t, graph("a.o", "", 1, 0), "a.c", ".c.o :", ".PHONY : a.o")
	wantGraph(t, graph("a.c a.o p", "2>1", 1, 4), "", ".c.o :", ".PHONY : a.c", "p : a.o")
	// Unless it is one as well.
	wantGraph(t, graph("a.c a.o p", "1>0 2>1", 2, 2|4), "a.c", ".c.o :", ".PHONY : a.o", "p : a.o")
}

func TestMakeWithInferences(t *testing.T) {
	wantGraph(t, graph("a.c a.o p", "1>0 2>1", 0, 2|4), "a.c", ".c.o :", "p : a.o")
	wantGraph(t, graph("a.o p", "1>0", 0, 2), "", ".c.o :", "p : a.o")
	wantGraph(t, graph("a.o p", "1>0", 0, 2), "a.c", "p : a.o")
	wantGraph(t, graph("a.c a.o", "1>0", 0, 2), "a.c", ".c.o :", "a.o :")
	wantGraph(t, graph("a.o h", "0>1", 0, 1), "a.c", ".c.o :", "a.o : h")
	wantGraph(t, graph("a.o a.s p", "0>1 2>0", 0, 1|4), "a.c a.s", ".s.o :", ".c.o :", "p : a.o")
	wantGraph(t, graph("a.c a.o p", "1>0 2>0 2>1", 0, 2|4), "", ".c.o :", "p : a.o a.c")
	// Files that nothing needs are no names, whether or not something could be inferred for them.
	wantGraph(t, api.Graph{}, "a b c", ".c.o :")
	wantGraph(t, graph("a b", "0>1", 0, 1), "b c a.o a.c", ".c.o :", "a : b")
	// The example of several targets, of which one is in two rules.
	wantGraph(t, graph("a b c d x.c x.o z", "0>1 0>2 1>3 1>5 2>3 5>4", 1|64, 1|2|4|32), "y.c x.c",
		"a : c b", "b c : d", ".PHONY : a z", ".c.o :", "b : x.o")
}

func TestTheErrorsOfMake(t *testing.T) {
	good := api.File{Rules: rules("p : a.o"), Infers: []api.Infer{{From: ".c", To: ".o"}}}
	with := func(change func(f *api.File)) api.File {
		f := api.File{Rules: rules("p : a.o"), Infers: slices.Clone(good.Infers)}
		change(&f)
		return f
	}
	twice := with(func(f *api.File) { f.Phony = words("a a") })
	same := with(func(f *api.File) { f.Infers[0].To = ".c" })
	names := numbered("n", 64)
	for i, c := range []struct {
		f     api.File
		there []string
		want  api.Errno
	}{
		// The error of file.Check.
		{twice, nil, api.ErrThere},
		{with(func(f *api.File) { f.Phony = words("a b*") }), nil, api.ErrForm},
		{with(func(f *api.File) { f.Phony = names[:21] }), nil, api.ErrLarge},
		{with(func(f *api.File) { f.Rules = make([]api.Rule, 1) }), nil, api.ErrForm},
		{with(func(f *api.File) { f.Rules = slices.Repeat(f.Rules, 101) }), nil, api.ErrLarge},
		{with(func(f *api.File) { f.Rules = rules("p : a a") }), nil, api.ErrThere},
		{with(func(f *api.File) { f.Rules = rules(".PHONY : a") }), nil, api.ErrForm},
		{with(func(f *api.File) { f.Infers[0].From = "c" }), nil, api.ErrForm},
		{with(func(f *api.File) { f.Infers = slices.Repeat(f.Infers, 2) }), nil, api.ErrForm},
		{with(func(f *api.File) { f.Macros = []api.Macro{{Name: "x", Value: "$(y)"}} }), nil, api.ErrNone},
		{with(func(f *api.File) { f.Macros = []api.Macro{{Name: "x", Value: "$(x)"}} }), nil, api.ErrCycle},
		{with(func(f *api.File) { f.Macros = []api.Macro{{Name: "x"}, {Name: "x"}} }), nil, api.ErrThere},
		// The error of infer.Fill.
		{same, nil, api.ErrThere},
		{with(func(f *api.File) { f.Infers[0].To = ".abcdefghij" }), nil, api.ErrForm},
		{with(func(f *api.File) {
			f.Infers = nil
			for _, s := range names[:21] {
				f.Infers = append(f.Infers, api.Infer{From: "." + s, To: ".o"})
			}
		}), nil, api.ErrLarge},
		{good, words("a b*"), api.ErrForm},
		{good, []string{""}, api.ErrForm},
		{good, names[:63], api.ErrLarge},
		{api.File{}, []string{""}, api.ErrForm},
		{api.File{}, numbered("n", 65), api.ErrLarge},
		// The file comes first.
		{twice, []string{""}, api.ErrThere},
		{twice, numbered("n", 65), api.ErrThere},
		{with(func(f *api.File) { f.Phony, f.Infers = words("a b*"), same.Infers }), names, api.ErrForm},
		{with(func(f *api.File) { f.Macros, f.Infers = []api.Macro{{Name: "x", Value: "$(y)"}}, same.Infers }), nil, api.ErrNone},
		{same, []string{""}, api.ErrThere},
	} {
		if g, e := Make(c.f, c.there); !equal(g, api.Graph{}) || e != c.want {
			t.Errorf("case %d: Make = %s, %d, want %d", i, shown(g), e, c.want)
		}
	}
	for _, bad := range invalidNames {
		for at := range 3 {
			if g, e := Make(good, slices.Insert(words("a.c b.c"), at, bad)); !equal(g, api.Graph{}) || e != api.ErrForm {
				t.Errorf("Make with the file %q = %s, %d, want ErrForm", bad, shown(g), e)
			}
		}
	}
}

func TestMakeUpToTheNumberOfNames(t *testing.T) {
	targets, phony := numbered("m", 70), numbered("p", 20)
	for n := 40; n <= 65; n++ {
		f := api.File{}
		for part := range slices.Chunk(targets[1:n], 20) {
			f.Rules = append(f.Rules, api.Rule{Targets: targets[:1], Needs: part})
		}
		for k := range 21 {
			f.Phony = phony[:k]
			g, e := Make(f, nil)
			if n+k > 64 {
				if !equal(g, api.Graph{}) || e != api.ErrLarge {
					t.Errorf("Make of %d names and %d phony ones = %.300s, %d, want ErrLarge", n, k, shown(g), e)
				}
				continue
			}
			if want := append(slices.Clone(targets[:n]), phony[:k]...); !slices.Equal(g.Names, want) || len(g.Edges) != n-1 || g.Made != 1 || g.Phony != (1<<k-1)<<n || e != api.OK {
				t.Errorf("Make of %d names and %d phony ones = %.300s, %d", n, k, shown(g), e)
			}
			// Phony names among the others count once.
			f.Phony = targets[n-k : n]
			if g, e := Make(f, nil); !slices.Equal(g.Names, targets[:n]) || g.Phony != (1<<k-1)<<(n-k) || e != api.OK {
				t.Errorf("Make of %d names, %d of which are phony = %.300s, %d", n, k, shown(g), e)
			}
		}
	}
	// Files that nothing needs count for infer.Fill, but not with the phony names.
	f := api.File{Rules: rules("a : b"), Phony: phony}
	if g, e := Make(f, targets[:62]); len(g.Names) != 22 || e != api.OK {
		t.Errorf("Make with 62 files = %s, %d", shown(g), e)
	}
	if g, e := Make(f, targets[:63]); !equal(g, api.Graph{}) || e != api.ErrLarge {
		t.Errorf("Make with 63 files = %s, %d, want ErrLarge", shown(g), e)
	}
}

func TestMakeOfTheLargestFile(t *testing.T) {
	want := full(64)
	want.Phony = 1<<20 - 1
	f := api.File{Phony: want.Names[:20]}
	for part := range slices.Chunk(want.Names, 16) {
		for needs := range slices.Chunk(want.Names, 16) {
			f.Rules = append(f.Rules, api.Rule{Targets: part, Needs: needs})
		}
	}
	slices.Reverse(f.Rules)
	if g, e := Make(f, want.Names); !equal(g, want) || e != api.OK || Check(g) != api.OK {
		t.Errorf("Make = %.300s, %d", shown(g), e)
	}
}

// makeByDefinition collects the parts of the graph by their names, and looks for each pair of them whether a rule has it.
func makeByDefinition(f api.File, there []string) api.Graph {
	filled, _ := infer.Fill(f.Rules, f.Infers, there)
	names := slices.Clone(f.Phony)
	for _, r := range filled {
		names = slices.Concat(names, r.Targets, r.Needs)
	}
	slices.Sort(names)
	g := api.Graph{Names: slices.Compact(names)}
	for i, target := range g.Names {
		if slices.Contains(f.Phony, target) {
			g.Phony += 1 << i
		}
		if slices.ContainsFunc(filled, func(r api.Rule) bool { return slices.Contains(r.Targets, target) }) {
			g.Made += 1 << i
		}
		for k, need := range g.Names {
			if slices.ContainsFunc(filled, func(r api.Rule) bool { return slices.Contains(r.Targets, target) && slices.Contains(r.Needs, need) }) {
				g.Edges = append(g.Edges, api.Edge{From: i, To: k})
			}
		}
	}
	return g
}

func TestMakeByItsDefinition(t *testing.T) {
	lines := words("p:x.o x.o: x.c: x.o,y.o:h q:y.o,x.c,p h:h .PHONY:p,z .PHONY:x.c,a .c.o: .y.c:")
	for i, s := range lines {
		lines[i] = strings.NewReplacer(",", " ", ":", " : ").Replace(s)
	}
	count := 0
	subsets(lines, func(some []string) {
		f := load(t, some...)
		subsets(words("y.c x.y x.c"), func(there []string) {
			want := makeByDefinition(f, there)
			if g, e := Make(f, there); !equal(g, want) || e != api.OK || Check(g) != api.OK {
				t.Fatalf("Make(%q, %q) = %s, %d, want %s", some, there, shown(g), e, shown(want))
			}
			count++
		})
	})
	if count != 1024*8 {
		t.Errorf("only %d cases", count)
	}
}

func TestMakeDoesNotKeepItsArguments(t *testing.T) {
	build := func() (api.File, []string) {
		return load(t, ".PHONY : p z", ".c.o :", "x = y", "p q : b.o a.o", "b.o :", "q : h"), words("b.c a.c q")
	}
	want := graph("a.c a.o b.c b.o h p q z", "1>0 3>2 5>1 5>3 6>1 6>3 6>4", 32|128, 2|8|32|64)
	f, there := build()
	all := [][]string{f.Phony, there, f.Rules[0].Targets, f.Rules[0].Needs, f.Rules[1].Targets, f.Rules[2].Needs}
	var before []string
	for _, l := range all {
		before = append(before, strings.Join(l[:cap(l)], " "))
	}
	g, e := Make(f, there)
	if !equal(g, want) || e != api.OK {
		t.Fatalf("Make = %s, %d", shown(g), e)
	}
	for i, l := range all {
		if got := strings.Join(l[:cap(l)], " "); got != before[i] {
			t.Errorf("Make changed %q to %q", before[i], got)
		}
	}
	overwrite(g)
	if g, e = Make(f, there); !equal(g, want) || e != api.OK {
		t.Errorf("Make returned a part of its arguments: %s, %d", shown(g), e)
	}
	for _, l := range all {
		overwrite(api.Graph{Names: l})
	}
	clear(f.Infers)
	if !equal(g, want) {
		t.Errorf("Make kept its arguments: %s", shown(g))
	}
}

func TestTheSameArgumentsGiveTheSameGraph(t *testing.T) {
	f := load(t, ".PHONY : z p y q", ".c.o :", ".s.o :", "m n o p q : a.o b.o c.o d.o", "e.o f.o :")
	there := words("a.c a.s b.s c.c d.s e.c")
	first, e := Make(f, there)
	if e != api.OK {
		t.Fatal(e)
	}
	for range 100 {
		if again, e := Make(f, there); !equal(again, first) || e != api.OK {
			t.Fatalf("Make = %s, %d, before it was %s", shown(again), e, shown(first))
		}
	}
}
