package infer

import (
	"slices"
	"strconv"
	"strings"
	"testing"

	"millwright/api"
	"millwright/rule"
)

// wantFilled tests that Fill returns these rules, for the inferences and the files in any order of the files.
func wantFilled(t *testing.T, r []api.Rule, l, there string, want ...string) {
	t.Helper()
	files := words(there)
	for range 2 {
		if got, e := Fill(r, infers(l), files); !slices.Equal(shown(got), shown(rules(want...))) || e != api.OK {
			t.Errorf("Fill(%.300q, %q, %q) = %.300q, %d, want %.300q", shown(r), l, files, shown(got), e, want)
		}
		slices.Reverse(files)
	}
}

func TestFill(t *testing.T) {
	wantFilled(t, nil, "", "")
	wantFilled(t, nil, ".c>.o", "a.c a.o")
	wantFilled(t, rules("p : a.o"), ".c>.o", "a.c", "a.o : a.c", "p : a.o")
	wantFilled(t, rules("p : a.o"), "", "a.c", "p : a.o")
	wantFilled(t, rules("p : a.o"), ".c>.o", "", "p : a.o")
	wantFilled(t, rules("p : a.o"), ".c>.o", "b.c a.o", "p : a.o")
	wantFilled(t, rules("a.o :"), ".c>.o", "a.c", "a.o : a.c")
	wantFilled(t, rules("a.o :"), ".c>.o", "", "a.o :")
	wantFilled(t, rules("a.o :", "b :"), ".c>.o", "b.c", "a.o :", "b :")
	// A name with needs keeps them, and gets no other one.
	wantFilled(t, rules("a.o : h"), ".c>.o", "a.c", "a.o : h")
	wantFilled(t, rules("a.o : a.s"), ".c>.o", "a.c a.s", "a.o : a.s")
	wantFilled(t, rules("a.o :", "a.o : h"), ".c>.o", "a.c", "a.o : h")
	wantFilled(t, rules("a.o : h", "a.o :"), ".c>.o", "a.c", "a.o : h")
	wantFilled(t, rules("p : a.o", "a.o : h"), ".c>.o", "a.c", "a.o : h", "p : a.o")
	// Each of several targets is looked at alone.
	wantFilled(t, rules("a.o b.o c.o :"), ".c>.o", "c.c a.c", "a.o : a.c", "b.o :", "c.o : c.c")
	wantFilled(t, rules("a.o b.o :", "b.o : h"), ".c>.o", "a.c b.c", "a.o : a.c", "b.o : h")
	// A need of several rules, or of itself, has one rule.
	wantFilled(t, rules("p q : a.o b", "r : a.o"), ".c>.o", "a.c", "a.o : a.c", "p : a.o b", "q : a.o b", "r : a.o")
	wantFilled(t, rules("a.o : a.o"), ".c>.o", "a.c", "a.o : a.o")
	// The needs keep their order, and the first inference decides.
	wantFilled(t, rules("p : z.o m.o a.o"), ".s>.o .c>.o", "a.c m.c z.s m.s",
		"a.o : a.c", "m.o : m.s", "p : z.o m.o a.o", "z.o : z.s")
	wantFilled(t, rules("p : a.o"), ".c>.o .s>.o", "a.s a.c", "a.o : a.c", "p : a.o")
	// Folders and suffixes.
	wantFilled(t, rules("p : lib/x.o y.o .o"), ".c>.o", "lib/x.c lib/y.c .c x.c", "lib/x.o : lib/x.c", "p : lib/x.o y.o .o")
}

func TestFillWithRulesOfSeveralLines(t *testing.T) {
	wantFilled(t, rules("b a : y x", "a : z y", "c :"), "", "", "a : y x z", "b : y x", "c :")
	wantFilled(t, rules("b a : y x", "a : z y", "c :"), ".q>.o", "w.q", "a : y x z", "b : y x", "c :")
	wantFilled(t, rules("z : b.o", "y : a.o", "z : c.o a.o"), ".c>.o", "a.c b.c c.c",
		"a.o : a.c", "b.o : b.c", "c.o : c.c", "y : a.o", "z : b.o c.o a.o")
}

func TestFillIsOrderedByTarget(t *testing.T) {
	wantFilled(t, rules("m : z.o A.o n.o l.o m.o a.o"), ".c>.o", "z.c A.c n.c m.c a.c l.c",
		"A.o : A.c", "a.o : a.c", "l.o : l.c", "m : z.o A.o n.o l.o m.o a.o", "m.o : m.c", "n.o : n.c", "z.o : z.c")
	wantFilled(t, rules("p : n10.o n9.o", "n9 : n1.o"), ".c>.o", "n9.c n10.c n1.c",
		"n1.o : n1.c", "n10.o : n10.c", "n9 : n1.o", "n9.o : n9.c", "p : n10.o n9.o")
}

func TestFillTakesTargetsAndNeedsAsFiles(t *testing.T) {
	// The prerequisite is a target.
	wantFilled(t, rules("p : a.o", "a.c : g"), ".c>.o", "", "a.c : g", "a.o : a.c", "p : a.o")
	wantFilled(t, rules("a.o a.c :"), ".c>.o", "", "a.c :", "a.o : a.c")
	wantFilled(t, rules("a.c : a.o"), ".c>.o", "", "a.c : a.o", "a.o : a.c")
	// The prerequisite is a need.
	wantFilled(t, rules("p : a.o a.c"), ".c>.o", "", "a.o : a.c", "p : a.o a.c")
	wantFilled(t, rules("p : a.o", "q : a.c"), ".c>.o", "", "a.o : a.c", "p : a.o", "q : a.c")
	// Such a name counts like a file.
	wantFilled(t, rules("p : a.o a.c"), ".c>.o .s>.o", "a.s", "a.o : a.c", "p : a.o a.c")
	wantFilled(t, rules("p : a.o a.c"), ".s>.o .c>.o", "a.s", "a.o : a.s", "p : a.o a.c")
	// A name that is only inferred does not.
	wantFilled(t, rules("p : a.o"), ".y>.c .c>.o", "a.y", "p : a.o")
}

func TestFillLooksOnlyAtTargetsAndNeeds(t *testing.T) {
	// A file, or an inferred prerequisite, gets no rule unless it is a target or a need as well.
	wantFilled(t, rules("p : q"), ".c>.o", "a.o a.c", "p : q")
	wantFilled(t, rules("p : a.o"), ".y>.c .c>.o", "a.y a.c", "a.o : a.c", "p : a.o")
	wantFilled(t, rules("p : a.o a.c"), ".y>.c .c>.o", "a.y", "a.c : a.y", "a.o : a.c", "p : a.o a.c")
	wantFilled(t, rules("p : a.o", "a.c :"), ".c>.o .y>.c", "a.y", "a.c : a.y", "a.o : a.c", "p : a.o")
	wantFilled(t, rules("a.c :", "b.o :"), ".y>.c .c>.o", "a.y a.o b.c b.y", "a.c : a.y", "b.o : b.c")
	// Inferences in both directions may give a cycle.
	wantFilled(t, rules("p : a.o a.c"), ".c>.o .o>.c", "", "a.c : a.o", "a.o : a.c", "p : a.o a.c")
	wantFilled(t, rules("p : a.o"), ".c>.o .o>.c", "a.c", "a.o : a.c", "p : a.o")
}

func TestTheErrorsOfFill(t *testing.T) {
	r, l, there := rules("p : a.o"), infers(".c>.o"), words("a.c")
	large := rules(strings.Join(numbered("t", 21), " ") + " :")
	// Each rule is valid, and so is each name, but there are too many targets.
	var targets []api.Rule
	for _, s := range numbered("t", 65) {
		targets = append(targets, rules(s+" : a")...)
	}
	many := numbered("x", 65)
	for i, c := range []struct {
		r     []api.Rule
		l     []api.Infer
		there []string
		want  api.Errno
	}{
		{make([]api.Rule, 101), l, there, api.ErrLarge},
		{[]api.Rule{{}}, l, there, api.ErrForm},
		{rules("p : $"), l, there, api.ErrForm},
		{rules("p : a", "q : b b"), l, there, api.ErrThere},
		{rules("p p : a"), l, there, api.ErrThere},
		{large, l, there, api.ErrLarge},
		{targets, l, there, api.ErrLarge},
		{r, make([]api.Infer, 21), there, api.ErrLarge},
		{r, infers(".c>o"), there, api.ErrForm},
		{r, infers(".c>.c"), there, api.ErrThere},
		{r, l, []string{"a.c", "a c"}, api.ErrForm},
		{r, l, many, api.ErrLarge},
		// The rules come first, then the inferences, the names and their number.
		{rules("p p : a"), make([]api.Infer, 21), []string{""}, api.ErrThere},
		{large, infers(".c>.c"), []string{""}, api.ErrLarge},
		{targets, infers(".c>.c"), []string{""}, api.ErrLarge},
		{[]api.Rule{{}}, infers(".c>.c"), many, api.ErrForm},
		{r, infers(".c>.c"), []string{""}, api.ErrThere},
		{r, infers(".c>.c"), many, api.ErrThere},
		{r, make([]api.Infer, 21), append([]string{""}, many...), api.ErrLarge},
		{r, l, append(slices.Clone(many), ""), api.ErrForm},
		{r, l, append([]string{""}, many...), api.ErrForm},
		// Without any rule or inference, the others are still looked at.
		{nil, infers(".c>.c"), nil, api.ErrThere},
		{nil, l, []string{""}, api.ErrForm},
		{nil, nil, []string{"a", "a b"}, api.ErrForm},
		{nil, nil, many, api.ErrLarge},
	} {
		if got, e := Fill(c.r, c.l, c.there); len(got) != 0 || e != c.want {
			t.Errorf("case %d: Fill = %q, %d, want %d", i, shown(got), e, c.want)
		}
	}
	for _, bad := range invalidNames {
		for at := range 3 {
			files := slices.Insert(words("a.c b.c"), at, bad)
			if got, e := Fill(r, l, files); len(got) != 0 || e != api.ErrForm {
				t.Errorf("Fill with the files %q = %q, %d, want ErrForm", files, shown(got), e)
			}
		}
	}
}

func TestFillUpToTheNumberOfNames(t *testing.T) {
	for _, n := range []int{60, 63, 64, 65, 66, 90} {
		names := numbered("n", n)
		for _, parts := range [][2]int{{0, 0}, {1, 1}, {1, 10}, {10, 10}, {20, 39}, {20, 40}, {1, 20}, {30, 60}, {40, 60}} {
			var r []api.Rule
			for _, target := range names[:parts[0]] {
				r = append(r, api.Rule{Targets: []string{target}})
			}
			for part := range slices.Chunk(names[parts[0]:parts[1]], 20) {
				r = append(r, api.Rule{Targets: names[:1], Needs: part})
			}
			// Names that are repeated count once.
			for _, there := range [][]string{names[parts[1]:], names[parts[0]/2:], slices.Concat(names, names[:20])} {
				joined, _ := rule.Join(r)
				got, e := Fill(r, nil, there)
				if n <= 64 && (!slices.Equal(shown(got), shown(joined)) || e != api.OK) {
					t.Errorf("Fill of %d names = %q, %d", n, shown(got), e)
				}
				if n > 64 && (len(got) != 0 || e != api.ErrLarge) {
					t.Errorf("Fill of %d names, %v = %q, %d, want ErrLarge", n, parts, shown(got), e)
				}
			}
		}
	}
}

func TestFillCountsEveryKindOfName(t *testing.T) {
	targets, needs, there := numbered("t", 22), numbered("n", 22), numbered("f", 22)
	build := func(a, b int) []api.Rule {
		var l []api.Rule
		for i, s := range targets[:a] {
			l = append(l, api.Rule{Targets: []string{s}, Needs: needs[i*b/a : (i+1)*b/a]})
		}
		return l
	}
	for a := 20; a <= 22; a++ {
		for b := 20; b <= 22; b++ {
			for c := 20; c <= 22; c++ {
				want := api.OK
				if a+b+c > 64 {
					want = api.ErrLarge
				}
				if got, e := Fill(build(a, b), nil, there[:c]); e != want || want == api.OK && len(got) != a || want != api.OK && len(got) != 0 {
					t.Errorf("Fill of %d targets, %d needs and %d files has %d rules, error %d, want %d", a, b, c, len(got), e, want)
				}
			}
		}
	}
	// The rules alone may have too many names.
	if got, e := Fill(append(build(22, 22), rules("x : "+strings.Join(numbered("m", 20), " "))...), nil, nil); len(got) != 0 || e != api.ErrLarge {
		t.Errorf("Fill of 65 names = %q, %d, want ErrLarge", shown(got), e)
	}
	if got, e := Fill(append(build(22, 22), rules("x : "+strings.Join(numbered("m", 19), " "))...), nil, nil); len(got) != 23 || e != api.OK {
		t.Errorf("Fill of 64 names = %q, %d", shown(got), e)
	}
}

func TestFillOfTheLargestRules(t *testing.T) {
	// 32 objects, each of which is inferred from one of 32 files.
	objects, files := numbered("x", 32), numbered("x", 32)
	var r []api.Rule
	var want []string
	for i := range objects {
		objects[i] += ".o"
		files[i] += ".c"
		want = append(want, objects[i]+" : "+files[i])
	}
	for part := range slices.Chunk(objects, 16) {
		r = append(r, api.Rule{Targets: part})
	}
	wantFilled(t, r, ".c>.o", strings.Join(files, " "), want...)
	// Every one of 64 names needs all of them.
	names := numbered("y", 64)
	r, want = nil, nil
	for part := range slices.Chunk(names, 16) {
		for needs := range slices.Chunk(names, 16) {
			r = append(r, api.Rule{Targets: part, Needs: needs})
		}
	}
	for _, s := range names {
		want = append(want, s+" : "+strings.Join(names, " "))
	}
	wantFilled(t, r, ".c>.o", "", want...)
}

// fillByDefinition looks at all targets and needs of the rules, one after the other, and inserts the rules that are missing.
func fillByDefinition(r []api.Rule, l []api.Infer, there []string) []api.Rule {
	filled, _ := rule.Join(r)
	files := slices.Clone(there)
	for _, x := range r {
		files = slices.Concat(files, x.Targets, x.Needs)
	}
	for _, s := range files[len(there):] {
		need, ok := ofByDefinition(l, files, s)
		at := slices.IndexFunc(filled, func(x api.Rule) bool { return x.Targets[0] >= s })
		switch {
		case !ok:
		case at < 0:
			filled = append(filled, api.Rule{Targets: []string{s}, Needs: []string{need}})
		case filled[at].Targets[0] != s:
			filled = slices.Insert(filled, at, api.Rule{Targets: []string{s}, Needs: []string{need}})
		case len(filled[at].Needs) == 0:
			filled[at].Needs = []string{need}
		}
	}
	return filled
}

func TestFillByItsDefinition(t *testing.T) {
	lines := []string{"p : x.o", "x.o :", "x.c :", "x.o y.o : h", "x.c : x.y", "q : y.o x.c", "h y.o : x.o"}
	pairs := []string{".c>.o", ".y>.c", ".s>.o", ".o>.c"}
	count := 0
	subsets(lines, func(some []string) {
		r := rules(some...)
		subsets(words("x.c x.s x.y y.c y.s"), func(there []string) {
			for i := range pairs {
				// The inferences in several orders.
				l := infers(strings.Join(slices.Concat(pairs[i:], pairs[:i]), " "))
				for n := range len(l) + 1 {
					want := shown(fillByDefinition(r, l[:n], there))
					if got, e := Fill(r, l[:n], there); !slices.Equal(shown(got), want) || e != api.OK {
						t.Fatalf("Fill(%q, %q, %q) = %q, %d, want %q", some, l[:n], there, shown(got), e, want)
					}
					count++
				}
			}
		})
	})
	if count != 128*32*4*5 {
		t.Error("only " + strconv.Itoa(count) + " cases")
	}
}

func TestTheSameArgumentsGiveTheSameResult(t *testing.T) {
	r := rules("m n o p q r s : a.o b.o c.o d.o e.o", "f.o g.o h.o :")
	l, there := infers(".c>.o .s>.o"), words("a.c a.s b.s c.c d.s f.c h.s")
	first, e := Fill(r, l, there)
	if len(first) != 14 || e != api.OK {
		t.Fatalf("Fill = %q, %d", shown(first), e)
	}
	for range 100 {
		if again, e := Fill(r, l, there); !slices.Equal(shown(again), shown(first)) || e != api.OK {
			t.Fatalf("Fill = %q, %d, before it was %q", shown(again), e, shown(first))
		}
	}
}
