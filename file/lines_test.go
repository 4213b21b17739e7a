package file

import (
	"slices"
	"strconv"
	"strings"
	"testing"

	"millwright/api"
	"millwright/line"
)

// texts returns the texts with these names and texts, in turn.
func texts(parts ...string) []api.Text {
	var t []api.Text
	for i := 0; i < len(parts); i += 2 {
		t = append(t, api.Text{Name: parts[i], Text: parts[i+1]})
	}
	return t
}

// numbered returns n distinct names that begin with s, in increasing order.
func numbered(s string, n int) []string {
	var l []string
	for i := range n {
		l = append(l, s+strconv.Itoa(1000+i))
	}
	return l
}

// wantLines tests that Lines returns these lines.
func wantLines(t *testing.T, s string, x []api.Text, want ...string) {
	t.Helper()
	if l, e := Lines(s, x); !slices.Equal(l, want) || e != api.OK {
		t.Errorf("Lines(%q, %q) = %q, %d, want %q", s, x, l, e, want)
	}
}

// wantNoLines tests that Lines and Load return this error and nothing else.
func wantNoLines(t *testing.T, s string, x []api.Text, want api.Errno) {
	t.Helper()
	if l, e := Lines(s, x); len(l) != 0 || e != want {
		t.Errorf("Lines(%.50q, %.200q) = %q, %d, want %d", s, x, l, e, want)
	}
	if f, e := Load(s, x); !equalFiles(f, api.File{}) || e != want {
		t.Errorf("Load(%.50q, %.200q) = %q, %d, want %d", s, x, shown(f), e, want)
	}
}

func TestLinesWithoutIncludes(t *testing.T) {
	for _, x := range [][]api.Text{nil, {}, texts("f", "y"), texts("a", "include a")} {
		wantLines(t, "", x)
		wantLines(t, "\n\n # nothing\n \t\n", x)
		wantLines(t, "a", x, "a")
		wantLines(t, "b\n\na\nb\n", x, "b", "a", "b")
		wantLines(t, "a \\\n  b # c\n\nd", x, "a  b", "d")
		wantLines(t, "\ta \t\n a\\#b\\", x, "\ta", " a#b")
	}
}

func TestLinesOfAnInclude(t *testing.T) {
	f := texts("f", "x\ny\n")
	wantLines(t, "include f", f, "x", "y")
	wantLines(t, "include f\n", f, "x", "y")
	wantLines(t, "a\ninclude f\nb", f, "a", "x", "y", "b")
	wantLines(t, "include f\na\ninclude f", f, "x", "y", "a", "x", "y")
	wantLines(t, "include f\ninclude f", f, "x", "y", "x", "y")
	// The words of a directive are those of its logical line.
	wantLines(t, " \t include \t f \t", f, "x", "y")
	wantLines(t, "include\tf", f, "x", "y")
	wantLines(t, "include f # this text", f, "x", "y")
	wantLines(t, "include\\\nf\na", f, "x", "y", "a")
	wantLines(t, "include \\\n\\\n\t f\na", f, "x", "y", "a")
	wantLines(t, "include f\\", f, "x", "y")
	// Of several texts the one with this name is included.
	wantLines(t, "include f\ninclude ff\ninclude F", texts("F", "1", "f", "2", "ff", "3"), "2", "3", "1")
	wantLines(t, "include a/b-c_d+e.f", texts("a/b-c_d+e.f", "x"), "x")
	long := strings.Repeat("n", 40)
	wantLines(t, "include "+long, texts(long, "x"), "x")
	wantLines(t, "include include", texts("include", "x"), "x")
}

func TestLinesOfIncludesInIncludes(t *testing.T) {
	x := texts("f", "1\ninclude g\n2\ninclude h\n3", "g", "4\ninclude h\n5", "h", "6", "none", "", "comment", "# include f\n")
	wantLines(t, "a\ninclude f\nb", x, "a", "1", "4", "6", "5", "2", "6", "3", "b")
	wantLines(t, "include g\ninclude h\ninclude g", x, "4", "6", "5", "6", "4", "6", "5")
	wantLines(t, "include none\na\ninclude comment", x, "a")
	// The lines of a text that has been included end there, also if it ends with a backslash.
	wantLines(t, "include f\n  b\n", texts("f", "x \\"), "x", "  b")
	wantLines(t, "include f\nb\n", texts("f", "include g\\", "g", "y"), "y", "b")
}

func TestLinesOfChainsOfIncludes(t *testing.T) {
	var chain []api.Text
	var want []string
	for i, s := range numbered("n", 20) {
		text := s + "\ninclude n" + strconv.Itoa(1001+i)
		if i == 19 {
			text = s
		}
		chain = append(chain, api.Text{Name: s, Text: text})
		want = append(want, s)
	}
	wantLines(t, "include n1000", chain, want...)
	slices.Reverse(chain)
	wantLines(t, "include n1000\nlast", chain, append(want, "last")...)
}

func TestLinesThatAreNoDirectives(t *testing.T) {
	x := texts("f", "x")
	for _, s := range []string{
		"included f", "include: f", "include= f", "Include f", "INCLUDE f", "a include f", "-include f",
		"includef", "inc lude f", "$(include) f", "$include f", ": include f", ".include f", "include; f",
	} {
		wantLines(t, s, x, s)
	}
	wantLines(t, "\\#include f", x, "#include f")
	wantLines(t, "include\\# f", x, "include# f")
	wantLines(t, "a \\\ninclude f", x, "a  include f")
	wantLines(t, "# a \\\ninclude f", x)
}

func TestIncludesOfTheWrongForm(t *testing.T) {
	f := texts("f", "x", "g", "include", "h", "include f f")
	for _, s := range []string{
		"include", " include ", "include # f", "include f f", "include f g", "include f \\\n g", "include f\tg h",
		"include = x", "include : f", "include f :", "a\ninclude", "include g", "include h", "include f \\#",
		"include q q", "include : : :",
	} {
		wantNoLines(t, s, f, api.ErrForm)
	}
}

func TestIncludesOfNoText(t *testing.T) {
	x := texts("f", "x", "g", "a\ninclude q\n")
	for _, s := range []string{
		"include q", "a\ninclude q\nb", "include F", "include ff", "include f/", "include ./f", "include g",
		// What is no name is the name of no text.
		"include :", "include =", "include $(f)", "include f\\#", "include \"f\"", "include " + strings.Repeat("f", 41),
		"include *",
	} {
		wantNoLines(t, s, x, api.ErrNone)
	}
	wantNoLines(t, "include f", nil, api.ErrNone)
	wantNoLines(t, "include include", nil, api.ErrNone)
}

func TestIncludesInACycle(t *testing.T) {
	x := texts(
		"self", "a\ninclude self\nb",
		"two", "include three", "three", "include two",
		"late", "include f\ninclude f\ninclude late", "f", "x",
		"p", "include q\n", "q", "include f\ninclude r", "r", "include q",
	)
	for _, s := range []string{"self", "two", "three", "late", "p", "q", "r"} {
		wantNoLines(t, "include "+s, x, api.ErrCycle)
		wantNoLines(t, "include f\na\ninclude "+s+"\nb", x, api.ErrCycle)
	}
	// The first error in the order of the lines decides.
	wantNoLines(t, "include n", texts("n", "include n\ninclude none"), api.ErrCycle)
	wantNoLines(t, "include n", texts("n", "include none\ninclude n"), api.ErrNone)
	wantNoLines(t, "include n", texts("n", "include n n\ninclude n"), api.ErrForm)
	// A cycle that is not reached does not count.
	wantLines(t, "include f", x, "x")
}

func TestTheTextsOfLines(t *testing.T) {
	var many []api.Text
	for _, s := range numbered("n", 21) {
		many = append(many, api.Text{Name: s, Text: s})
	}
	wantLines(t, "include n1019\na", many[:20], "n1019", "a")
	wantNoLines(t, "a", many, api.ErrLarge)
	wantNoLines(t, "", many, api.ErrLarge)
	long := strings.Repeat("n", 40)
	wantLines(t, "a", texts(long, "", long[1:], ""), "a")
	for _, bad := range []string{"", " ", "a b", "a\t", ":", "a:", "$(a)", "a=b", "#", "\n", "\x00", "\u00e9", "\xff", long + "n"} {
		wantNoLines(t, "a", texts(bad, ""), api.ErrForm)
		wantNoLines(t, "a", texts("f", "", bad, "", "g", ""), api.ErrForm)
	}
	wantNoLines(t, "a", texts("f", "x", "f", "x"), api.ErrThere)
	wantNoLines(t, "a", texts("f", "x", "g", "", "f", "y"), api.ErrThere)
	wantNoLines(t, "include f", texts("g", "", "f", "x", "f", ""), api.ErrThere)
	wantLines(t, "a", texts("f", "", "F", "", "f.", "", "f/", ""), "a")
}

func TestTheOrderOfTheErrorsOfTheTexts(t *testing.T) {
	// Too many texts come first, and then the first text with an error.
	wantNoLines(t, "a", make([]api.Text, 21), api.ErrLarge)
	wantNoLines(t, "a", slices.Repeat(texts("f", ""), 21), api.ErrLarge)
	wantNoLines(t, "a", slices.Repeat(texts("f", ""), 20), api.ErrThere)
	wantNoLines(t, "a", make([]api.Text, 20), api.ErrForm)
	wantNoLines(t, "a", texts("f", "", "f", "", " ", ""), api.ErrThere)
	wantNoLines(t, "a", texts("f", "", " ", "", "f", ""), api.ErrForm)
	wantNoLines(t, "a", texts(" ", "", " ", ""), api.ErrForm)
	// The errors of processing come after all of these.
	for _, s := range []string{"\r", strings.Repeat("a", 20001), "include", "include q", "include f", strings.Repeat("a\n", 201)} {
		wantNoLines(t, s, texts("f", "include f", "f", ""), api.ErrThere)
	}
	wantNoLines(t, strings.Repeat("a", 20001), texts(" ", ""), api.ErrForm)
	wantNoLines(t, "\r", make([]api.Text, 21), api.ErrLarge)
}

func TestTheErrorsOfJoinInLines(t *testing.T) {
	limit := strings.Repeat("#", 20000)
	bad := texts("byte", "a\nb\rc", "long", limit+"#", "full", limit, "in", "include byte", "over", "include long")
	for _, s := range []string{"\r", "a\x00", "\x7f", "\u00e9", "\xff", "include q\n\x1f", "include\n\v", "a\n# \r"} {
		wantNoLines(t, s, bad, api.ErrForm)
	}
	wantLines(t, limit, bad)
	wantNoLines(t, limit+"#", bad, api.ErrLarge)
	wantNoLines(t, limit+"\r", bad, api.ErrLarge)
	wantNoLines(t, strings.Repeat("include q\n", 2001), bad, api.ErrLarge)
	// Texts are only read when they are reached, and as often as that.
	wantLines(t, "a", bad, "a")
	wantLines(t, "include full\na\ninclude full", bad, "a")
	for _, s := range []string{"include byte", "include in", "a\ninclude byte\ninclude long", "include byte\ninclude q"} {
		wantNoLines(t, s, bad, api.ErrForm)
	}
	for _, s := range []string{"include long", "include over", "include full\ninclude long\ninclude byte", "include long\ninclude"} {
		wantNoLines(t, s, bad, api.ErrLarge)
	}
	wantNoLines(t, "include q\ninclude byte", bad, api.ErrNone)
	wantNoLines(t, "include q\ninclude long", bad, api.ErrNone)
	wantNoLines(t, "include n", texts("n", "include n\ninclude bad", "bad", "\r"), api.ErrCycle)
	wantNoLines(t, "include n", texts("n", "include bad\ninclude n", "bad", "\r"), api.ErrForm)
}

func TestLinesUpToTheNumberOfLines(t *testing.T) {
	many := func(n int) string { return strings.Repeat("a\n\n", n) }
	for _, n := range []int{198, 199, 200, 201, 1000} {
		x := texts("all", many(n), "none", "# nothing", "part", many(n-2)+"include none")
		for _, c := range []struct {
			s                string
			processed, lines int
		}{
			{many(n), n, n},
			{"# nothing\n \n" + many(n), n, n},
			{strings.Repeat("a \\\n", 5) + "\n" + many(n-1), n, n},
			{"include all", n + 1, n},
			{"include none\n" + many(n), n + 1, n},
			{many(n) + "include none\n", n + 1, n},
			{"include part\n", n, n - 2},
			{strings.Repeat("include none\n", n), n, 0},
			{many(n-3) + "include none\ninclude none\na", n, n - 2},
		} {
			l, e := Lines(c.s, x)
			if c.processed <= 200 && (len(l) != c.lines || e != api.OK) {
				t.Errorf("Lines(%.30q) of %d lines has %d lines, error %d, want %d", c.s, c.processed, len(l), e, c.lines)
			}
			if c.processed > 200 {
				wantNoLines(t, c.s, x, api.ErrLarge)
			}
		}
	}
}

func TestTheLastLineOfLines(t *testing.T) {
	x := texts("byte", "\r", "self", "include self", "none", "", "one", "a")
	before := strings.Repeat("a\n", 199)
	for s, want := range map[string]api.Errno{
		"include": api.ErrForm, "include q": api.ErrNone, "include byte": api.ErrForm,
		// The 200th line is processed, but a line that it includes is too much, whatever it is.
		"include self": api.ErrLarge, "include one": api.ErrLarge,
	} {
		wantNoLines(t, before+s, x, want)
		wantNoLines(t, before+s+"\ninclude q", x, want)
		// The 201st line is too much before it is looked at.
		wantNoLines(t, before+"a\n"+s, x, api.ErrLarge)
		wantNoLines(t, before+"include none\n"+s, x, api.ErrLarge)
	}
	wantLines(t, before+"include none", x, slices.Repeat([]string{"a"}, 199)...)
}

func TestLinesOfTextsThatGrow(t *testing.T) {
	// Every text includes the next one twice: the lines that are processed double, and the work must not.
	x := texts("n0", "")
	for i := 1; i < 20; i++ {
		one := "include n" + strconv.Itoa(i-1) + "\n"
		x = append(x, api.Text{Name: "n" + strconv.Itoa(i), Text: one + one})
	}
	for i := range 20 {
		// The directives are 1, 3, 7, 15 and so on.
		s := "include n" + strconv.Itoa(i)
		if 1<<(i+1)-1 <= 200 {
			wantLines(t, s, x)
		} else {
			wantNoLines(t, s, x, api.ErrLarge)
		}
	}
}

// pending is a line that is not yet processed, with the texts that it is in.
type pending struct {
	text string
	in   []string
}

// linesByDefinition replaces the first directive of a list of lines until there is none.
func linesByDefinition(s string, x []api.Text) ([]string, api.Errno) {
	var waiting []pending
	enter := func(s string, in []string) api.Errno {
		joined, e := line.Join(s)
		var first []pending
		for _, l := range joined {
			first = append(first, pending{l.Text, in})
		}
		waiting = append(first, waiting...)
		return e
	}
	e := enter(s, nil)
	var done []string
	for n := 1; len(waiting) > 0 && e == api.OK; n++ {
		next := waiting[0]
		waiting = waiting[1:]
		words := strings.Fields(next.text)
		at := -1
		if len(words) > 1 {
			at = slices.IndexFunc(x, func(x api.Text) bool { return x.Name == words[1] })
		}
		switch {
		case n > 200:
			e = api.ErrLarge
		case words[0] != "include":
			done = append(done, next.text)
		case len(words) != 2:
			e = api.ErrForm
		case at < 0:
			e = api.ErrNone
		case slices.Contains(next.in, words[1]):
			e = api.ErrCycle
		default:
			e = enter(x[at].Text, append(slices.Clone(next.in), words[1]))
		}
	}
	if e != api.OK {
		return nil, e
	}
	return done, api.OK
}

func TestLinesOfAllSmallTexts(t *testing.T) {
	lines := []string{"x", "include f", "include g", "include h", "include q", "include"}
	var bodies []string
	for _, a := range lines[:5] {
		bodies = append(bodies, a)
		for _, b := range lines {
			bodies = append(bodies, a+"\n"+b)
		}
	}
	counts := map[api.Errno]int{}
	for _, f := range bodies {
		for _, g := range bodies {
			for _, h := range []string{"", "y", "\r", "include f", "include g\nz"} {
				x := texts("h", h, "f", f, "g", g)
				for _, s := range []string{"include f", "a\ninclude g\ninclude f", "include h\ninclude g\ninclude h"} {
					want, wanted := linesByDefinition(s, x)
					if l, e := Lines(s, x); !slices.Equal(l, want) || e != wanted {
						t.Fatalf("Lines(%q, %q) = %q, %d, want %q, %d", s, x, l, e, want, wanted)
					}
					counts[wanted]++
				}
			}
		}
	}
	if len(counts) != 4 || counts[api.OK] < 100 || counts[api.ErrCycle] < 100 {
		t.Errorf("the results are %v", counts)
	}
}

func TestTheTextsAreNotModified(t *testing.T) {
	all := texts("f", "x\ninclude g", "g", "y", "beyond", "z")
	want := slices.Clone(all)
	wantLines(t, "include f\ninclude g", all[:2], "x", "y", "y")
	wantNoLines(t, "include beyond", all[:2], api.ErrNone)
	if !slices.Equal(all, want) {
		t.Errorf("the texts are %q", all)
	}
}

func TestResultsOfLinesAreNewMemory(t *testing.T) {
	x := texts("f", "x\ny")
	first, _ := Lines("include f\ninclude f", x)
	second, _ := Lines("include f\ninclude f", x)
	overwrite(first)
	if want := []string{"x", "y", "x", "y"}; !slices.Equal(second, want) {
		t.Errorf("two results share memory: %q", second)
	}
	x[0].Text = "z"
	wantLines(t, "include f", x, "z")
}

func TestNothingIsKeptAfterAnError(t *testing.T) {
	x := texts("f", "a\ninclude g", "g", "include f", "h", "include q", "k", "x")
	for range 3 {
		wantNoLines(t, "include f", x, api.ErrCycle)
		wantNoLines(t, "include h", x, api.ErrNone)
		wantNoLines(t, strings.Repeat("a\n", 201), x, api.ErrLarge)
		wantLines(t, strings.Repeat("a\n", 2)+"include k", x, "a", "a", "x")
	}
}
