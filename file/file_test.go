package file

import (
	"slices"
	"strconv"
	"strings"
	"testing"

	"millwright/api"
	"millwright/macro"
)

// words returns the words in s.
func words(s string) []string { return strings.Fields(s) }

// rules returns the rules of the lines, each of which has one colon, without any check.
func rules(lines ...string) []api.Rule {
	var l []api.Rule
	for _, s := range lines {
		targets, needs, _ := strings.Cut(s, ":")
		l = append(l, api.Rule{Targets: words(targets), Needs: words(needs)})
	}
	return l
}

// macros returns the macros with these names and values, in turn.
func macros(parts ...string) []api.Macro {
	var l []api.Macro
	for i := 0; i < len(parts); i += 2 {
		l = append(l, api.Macro{Name: parts[i], Value: parts[i+1]})
	}
	return l
}

// infers returns the inferences with these suffixes, in turn.
func infers(parts ...string) []api.Infer {
	var l []api.Infer
	for i := 0; i < len(parts); i += 2 {
		l = append(l, api.Infer{From: parts[i], To: parts[i+1]})
	}
	return l
}

// shown returns the file as one string, in which different files look different.
func shown(f api.File) string {
	var s strings.Builder
	for _, m := range f.Macros {
		s.WriteString(strconv.Quote(m.Name) + "=" + strconv.Quote(m.Value) + ";")
	}
	s.WriteString("P")
	for _, x := range f.Phony {
		s.WriteString(strconv.Quote(x))
	}
	for _, x := range f.Infers {
		s.WriteString("I" + strconv.Quote(x.From) + ">" + strconv.Quote(x.To))
	}
	for _, r := range f.Rules {
		s.WriteString("R")
		for _, x := range r.Targets {
			s.WriteString(strconv.Quote(x))
		}
		s.WriteString(":")
		for _, x := range r.Needs {
			s.WriteString(strconv.Quote(x))
		}
	}
	return s.String()
}

func equalFiles(a, b api.File) bool { return shown(a) == shown(b) }

// overwrite changes all memory of the slice, also beyond its length.
func overwrite(l []string) {
	for i := range l[:cap(l)] {
		l[:cap(l)][i] = "overwritten"
	}
}

// wantFile tests that Parse and Load return this file for the lines.
func wantFile(t *testing.T, want api.File, lines ...string) {
	t.Helper()
	if f, n, e := Parse(lines); !equalFiles(f, want) || n != 0 || e != api.OK {
		t.Errorf("Parse(%.300q) = %.300q, %d, %d, want %.300q", lines, shown(f), n, e, shown(want))
	}
	if f, e := Load(strings.Join(lines, "\n"), nil); !equalFiles(f, want) || e != api.OK {
		t.Errorf("Load of %.300q = %.300q, %d, want %.300q", lines, shown(f), e, shown(want))
	}
}

// wantError tests that Parse returns this error and number for the lines, and nothing else.
func wantError(t *testing.T, number int, want api.Errno, lines ...string) {
	t.Helper()
	if f, n, e := Parse(lines); !equalFiles(f, api.File{}) || n != number || e != want {
		t.Errorf("Parse(%.300q) = %.300q, %d, %d, want %d, %d", lines, shown(f), n, e, number, want)
	}
}

func TestParse(t *testing.T) {
	wantFile(t, api.File{})
	wantFile(t, api.File{Macros: macros("X", "b"), Rules: rules("a : b"), Infers: infers(".c", ".o")}, "X = b", "a : $(X)", ".c.o :")
	wantFile(t, api.File{Rules: rules("a b : c", "d :", "a : c")}, "a b:c", "\td\t:", "a : c")
	wantFile(t, api.File{Phony: words("all clean")}, ".PHONY : all clean")
	wantFile(t, api.File{Rules: rules("a : b", "a : b")}, "a : b", "a:b")
	// The parts are in the order of their lines, whatever is between them.
	wantFile(t, api.File{
		Macros: macros("z", "1", "y", "2"), Phony: words("q p"), Infers: infers(".y", ".x", ".b", ".a"), Rules: rules("k : l", "i : j"),
	}, "k : l", ".y.x :", "z = 1", ".PHONY : q", "y = 2", ".b.a :", "i : j", ".PHONY : p")
}

func TestParseOfDefinitions(t *testing.T) {
	for _, c := range []struct{ line, name, value string }{
		{"X=b", "X", "b"},
		{"X = b", "X", "b"},
		{" \tX\t=\t b c \t", "X", "b c"},
		{"X = a  b", "X", "a  b"},
		{"X=", "X", ""},
		{"X = ", "X", ""},
		{"X = a = b", "X", "a = b"},
		{"X==", "X", "="},
		{"X=:", "X", ":"},
		{"X = a : b", "X", "a : b"},
		{"X=a:b=c", "X", "a:b=c"},
		{"X = $$", "X", "$$"},
		{"X = $$(X)", "X", "$$(X)"},
		{".PHONY = a", ".PHONY", "a"},
		{".c.o = :", ".c.o", ":"},
		{"a/b-c_d+e.f = \"q\" '%' (", "a/b-c_d+e.f", "\"q\" '%' ("},
		{strings.Repeat("n", 40) + "=v", strings.Repeat("n", 40), "v"},
		{"X = " + strings.Repeat("v", 2000), "X", strings.Repeat("v", 2000)},
	} {
		wantFile(t, api.File{Macros: macros(c.name, c.value)}, c.line)
	}
	// Values stay as they were defined, also if they refer to macros that come later.
	m := macros("a", "$(b) $$", "b", "$(c)$(c)", "c", "x")
	wantFile(t, api.File{Macros: m}, "a = $(b) $$", "b = $(c)$(c)", "c = x")
	// Only Lines knows directives.
	if f, n, e := Parse([]string{"include = x", "include : x"}); !equalFiles(f, api.File{Macros: macros("include", "x"), Rules: rules("include : x")}) || n != 0 || e != api.OK {
		t.Errorf("Parse = %q, %d, %d", shown(f), n, e)
	}
	// The lines need not come from Lines.
	if f, n, e := Parse([]string{"X = a\nb # \xff"}); !equalFiles(f, api.File{Macros: macros("X", "a\nb # \xff")}) || n != 0 || e != api.OK {
		t.Errorf("Parse = %q, %d, %d", shown(f), n, e)
	}
}

func TestParseOfLinesThatAreNoDefinitions(t *testing.T) {
	for _, s := range []string{
		"", " ", "a", "a b", ":", ": a", "a : b = c", "a:=b", "a : =", ":=", "a :=", "::", "a : b : c", "a :: b",
		"$$ : a", "a : $$", "a : #", "a : b\n", "a\v: b", "\xff : a", "a : \u00e9", strings.Repeat("n", 41) + " :",
		"$ : a", "a : $", "a : $(", "a : $()", "a : $(b c)", "a : $b", "$(a", "a : $(b:c)", "$",
	} {
		wantError(t, 1, api.ErrForm, s)
		wantError(t, 2, api.ErrForm, "b = x", s, "c = y")
	}
	// A line without a colon may get one from a macro, but not the sign of a definition.
	wantFile(t, api.File{Macros: macros("r", "a : b"), Rules: rules("a : b")}, "r = a : b", "$(r)")
	wantError(t, 2, api.ErrForm, "d = a = b", "$(d)")
	wantError(t, 2, api.ErrForm, "e = =", "a $(e) b")
	wantError(t, 1, api.ErrForm, "a : $(e) b", "e = =")
}

func TestParseExpandsLines(t *testing.T) {
	m := macros("e", "", "o", "x.o y.o", "t", "p $(e) q", "p", ".PHONY", "d", ".", "colon", ":", "pair", "$(d)c$(d)o")
	defined := []string{"e =", "o = x.o y.o", "t = p $(e) q", "p = .PHONY", "d = .", "colon = :", "pair = $(d)c$(d)o"}
	for _, c := range []struct {
		line string
		want api.File
	}{
		{"a : $(o)", api.File{Rules: rules("a : x.o y.o")}},
		{"$(t) : $(o) z", api.File{Rules: rules("p q : x.o y.o z")}},
		{"a$(e)b : $(e)", api.File{Rules: rules("ab :")}},
		{"$(t) $(colon) a", api.File{Rules: rules("p q : a")}},
		{"$(p) : a", api.File{Phony: words("a")}},
		{".PHONY : $(o)", api.File{Phony: words("x.o y.o")}},
		{".PH$(e)ONY : a", api.File{Phony: words("a")}},
		{"$(pair) :", api.File{Infers: infers(".c", ".o")}},
		{"$(pair)$(d) :", api.File{Rules: rules(".c.o. :")}},
		{".c.o : $(e)", api.File{Infers: infers(".c", ".o")}},
		{"$(e) .c$(d)h $(colon)", api.File{Infers: infers(".c", ".h")}},
		{"a : $(pair)", api.File{Rules: rules("a : .c.o")}},
	} {
		c.want.Macros = m
		// A line may refer to macros that are defined after it.
		wantFile(t, c.want, append(slices.Clone(defined), c.line)...)
		wantFile(t, c.want, append([]string{c.line}, defined...)...)
	}
	for s, want := range map[string]api.Errno{
		"$(e) : a": api.ErrForm, "a $(e) b": api.ErrForm, "a : $$(e)": api.ErrForm, "a : $(q)": api.ErrNone, "$(q)": api.ErrNone,
		"a : $(o) x.o": api.ErrThere, "$(t) p : a": api.ErrThere, "$(p) a : b": api.ErrForm, "$(colon)$(colon)": api.ErrForm,
		"$(o) : " + strings.Repeat("$(o)", 300): api.ErrLarge,
	} {
		wantError(t, 8, want, append(slices.Clone(defined), s)...)
		wantError(t, 1, want, append([]string{s}, defined...)...)
	}
}

func TestParseOfPhonyNames(t *testing.T) {
	for _, c := range []struct {
		lines []string
		want  api.File
	}{
		{[]string{".PHONY :"}, api.File{}},
		{[]string{".PHONY:", " \t.PHONY\t:\t", ".PHONY :"}, api.File{}},
		{[]string{".PHONY : b a"}, api.File{Phony: words("b a")}},
		{[]string{".PHONY : b a", ".PHONY : c b d a"}, api.File{Phony: words("b a c d")}},
		{[]string{".PHONY : a", ".PHONY :", "a : b", ".PHONY : a"}, api.File{Phony: words("a"), Rules: rules("a : b")}},
		{[]string{".PHONY : .PHONY .c.o"}, api.File{Phony: words(".PHONY .c.o")}},
		// Elsewhere the name is one like others, and so are names that are similar to it.
		{[]string{"a : .PHONY"}, api.File{Rules: rules("a : .PHONY")}},
		{[]string{".phony : a", "PHONY : b", ".PHONY. : c", "./.PHONY : d"}, api.File{Rules: rules(".phony : a", "PHONY : b", ".PHONY. : c", "./.PHONY : d")}},
		{[]string{".PHONY.o :", ".c.PHONY :"}, api.File{Infers: infers(".PHONY", ".o", ".c", ".PHONY")}},
	} {
		wantFile(t, c.want, c.lines...)
	}
	for _, s := range []string{".PHONY a : b", "a .PHONY : b", "a .PHONY b :", ".PHONY .c.o :", ".PHONY a :"} {
		wantError(t, 1, api.ErrForm, s)
		wantError(t, 3, api.ErrForm, ".PHONY : x", "a : b", s, "c")
	}
	wantError(t, 1, api.ErrThere, ".PHONY .PHONY : a")
	wantError(t, 1, api.ErrThere, ".PHONY : a a")
	wantError(t, 2, api.ErrThere, "x : y", ".PHONY : a b a")
}

func TestParseUpToTheNumberOfPhonyNames(t *testing.T) {
	names := numbered("n", 25)
	line := func(from, to int) string { return ".PHONY : " + strings.Join(names[from:to], " ") }
	full := api.File{Phony: names[:20]}
	wantFile(t, full, line(0, 20))
	wantFile(t, full, line(0, 19), line(19, 20))
	wantFile(t, full, line(0, 10), line(0, 20), line(5, 20), ".PHONY :")
	var single []string
	for i := range names {
		single = append(single, line(i, i+1))
	}
	wantFile(t, full, single[:20]...)
	wantFile(t, full, slices.Concat(single[:20], single[:20])...)
	wantError(t, 21, api.ErrLarge, single[:21]...)
	wantError(t, 21, api.ErrLarge, single...)
	wantError(t, 22, api.ErrLarge, slices.Concat([]string{"x = y"}, single)...)
	wantError(t, 1, api.ErrLarge, line(0, 21))
	wantError(t, 2, api.ErrLarge, line(0, 20), line(1, 21))
	wantError(t, 2, api.ErrLarge, line(0, 20), line(20, 25), "a b")
	wantError(t, 3, api.ErrLarge, line(0, 15), line(5, 20), line(10, 25))
	// The names of rules do not count.
	wantFile(t, api.File{Phony: names[:20], Rules: rules(names[20] + " : " + names[21])}, line(0, 20), names[20]+" : "+names[21])
}

// pairByDefinition compares s with the bytes of a suffix pair, one after the other.
func pairByDefinition(s string) (api.Infer, bool) {
	var parts []string
	for i := range len(s) {
		switch {
		case s[i] == '/':
			return api.Infer{}, false
		case s[i] == '.':
			parts = append(parts, ".")
		case len(parts) == 0:
			return api.Infer{}, false
		default:
			parts[len(parts)-1] += s[i : i+1]
		}
	}
	if len(parts) != 2 || parts[0] == "." || parts[1] == "." {
		return api.Infer{}, false
	}
	return api.Infer{From: parts[0], To: parts[1]}, true
}

func TestParseOfAllShortTargets(t *testing.T) {
	targets := []string{""}
	for from, length := 0, 1; length <= 8; length++ {
		to := len(targets)
		for _, s := range targets[from:to] {
			targets = append(targets, s+"a", s+".", s+"/")
		}
		from = to
	}
	pairs := 0
	for _, s := range targets[1:] {
		want := api.File{Rules: rules(s + " :")}
		if pair, ok := pairByDefinition(s); ok {
			pairs++
			want = api.File{Infers: []api.Infer{pair}}
		}
		if f, n, e := Parse([]string{s + " :"}); !equalFiles(f, want) || n != 0 || e != api.OK {
			t.Fatalf("Parse of the target %q = %q, %d, %d, want %q", s, shown(f), n, e, shown(want))
		}
		// With needs, or beside another target, it is a rule.
		for _, line := range []string{s + " : x", s + " x :", "x " + s + " :"} {
			if f, n, e := Parse([]string{line}); !equalFiles(f, api.File{Rules: rules(line)}) || n != 0 || e != api.OK {
				t.Fatalf("Parse(%q) = %q, %d, %d", line, shown(f), n, e)
			}
		}
	}
	// There are n-3 of them with n bytes.
	if pairs != 1+2+3+4+5 {
		t.Errorf("%d of the targets are suffix pairs", pairs)
	}
}

func TestParseOfInferences(t *testing.T) {
	long := strings.Repeat("n", 19)
	for _, c := range []struct {
		lines []string
		want  api.File
	}{
		{[]string{".c.o:"}, api.File{Infers: infers(".c", ".o")}},
		{[]string{".c.o :", ".o.c :", ".c.c :"}, api.File{Infers: infers(".c", ".o", ".o", ".c", ".c", ".c")}},
		{[]string{".y.c :", ".c.o :", ".y.c :", ".c.o:"}, api.File{Infers: infers(".y", ".c", ".c", ".o")}},
		{[]string{".c+_-1.A :"}, api.File{Infers: infers(".c+_-1", ".A")}},
		{[]string{"." + long + ".o" + long[2:] + " :"}, api.File{Infers: infers("."+long, ".o"+long[2:])}},
		{[]string{".c.o :", ".c.o : x", ".c.o y :"}, api.File{Infers: infers(".c", ".o"), Rules: rules(".c.o : x", ".c.o y :")}},
	} {
		wantFile(t, c.want, c.lines...)
	}
	// Their number is not limited here.
	var lines []string
	var all []api.Infer
	for _, s := range numbered(".x", 200) {
		lines = append(lines, s+".o :")
		all = append(all, api.Infer{From: s, To: ".o"})
	}
	wantFile(t, api.File{Infers: all}, lines...)
	wantError(t, 200, api.ErrForm, append(slices.Clone(lines[:199]), "x")...)
}

func TestParseUpToTheNumberOfRules(t *testing.T) {
	others := []string{"x = y", ".PHONY : a b", ".c.o :", ".PHONY :", ".o.p :"}
	for _, n := range []int{99, 100, 101, 150} {
		var distinct []string
		for _, s := range numbered("n", n) {
			distinct = append(distinct, s+" : x")
		}
		for _, same := range [][]string{distinct, slices.Repeat([]string{"a : b"}, n)} {
			if n > 100 {
				wantError(t, 101, api.ErrLarge, same...)
				wantError(t, 106, api.ErrLarge, slices.Concat(others, same, []string{"a b"})...)
				wantError(t, 103, api.ErrLarge, slices.Concat(others[:2], same, others[2:])...)
				continue
			}
			wantFile(t, api.File{Rules: rules(same...)}, same...)
			want := api.File{Macros: macros("x", "y"), Phony: words("a b"), Infers: infers(".c", ".o", ".o", ".p"), Rules: rules(same...)}
			wantFile(t, want, slices.Concat(others, same)...)
			wantFile(t, want, slices.Concat(same, others)...)
		}
	}
}

func TestParseUpToTheNumberOfLines(t *testing.T) {
	wantFile(t, api.File{Infers: infers(".c", ".o")}, slices.Repeat([]string{".c.o :"}, 200)...)
	wantError(t, 0, api.ErrLarge, slices.Repeat([]string{".c.o :"}, 201)...)
	wantFile(t, api.File{}, slices.Repeat([]string{".PHONY :"}, 200)...)
	wantError(t, 0, api.ErrLarge, slices.Repeat([]string{".PHONY :"}, 201)...)
	wantError(t, 1, api.ErrForm, make([]string, 200)...)
	// Too many lines come before everything else.
	wantError(t, 0, api.ErrLarge, make([]string, 201)...)
	wantError(t, 0, api.ErrLarge, slices.Repeat([]string{"x = $(q)"}, 201)...)
	wantError(t, 0, api.ErrLarge, slices.Repeat([]string{"a : b"}, 1000)...)
}

func TestTheErrorsOfTheMacros(t *testing.T) {
	var many []string
	for _, s := range numbered("m", 41) {
		many = append(many, s+" = v")
	}
	var all []api.Macro
	for _, s := range numbered("m", 40) {
		all = append(all, api.Macro{Name: s, Value: "v"})
	}
	wantFile(t, api.File{Macros: all, Rules: rules("a : v")}, append([]string{"a : $(m1039)"}, many[:40]...)...)
	wantError(t, 0, api.ErrLarge, many...)
	for _, c := range []struct {
		want  api.Errno
		lines []string
	}{
		{api.ErrForm, []string{"="}},
		{api.ErrForm, []string{" = a"}},
		{api.ErrForm, []string{"a b = c"}},
		{api.ErrForm, []string{"$(a) = b", "a = c"}},
		{api.ErrForm, []string{"a+ = b", "a* = b"}},
		{api.ErrForm, []string{strings.Repeat("n", 41) + " = b"}},
		{api.ErrForm, []string{"a = $"}},
		{api.ErrForm, []string{"a = $b"}},
		{api.ErrForm, []string{"a = $("}},
		{api.ErrThere, []string{"a = b", "a = b"}},
		{api.ErrThere, []string{"a = b", "x : y", "a=c"}},
		{api.ErrNone, []string{"a = $(b)"}},
		{api.ErrCycle, []string{"a = $(a)"}},
		{api.ErrCycle, []string{"a = $(b)", "b = $(a)"}},
		{api.ErrLarge, []string{"a = " + strings.Repeat("v", 2001)}},
		{api.ErrLarge, []string{"a = " + strings.Repeat("v", 1001), "b = $(a)$(a)"}},
	} {
		wantError(t, 0, c.want, c.lines...)
		// They come before the errors of all lines that are not definitions.
		wantError(t, 0, c.want, append([]string{"", "a : $(q)", ".PHONY a : b", "x : y y"}, c.lines...)...)
		if f, e := Load(strings.Join(append([]string{"x x :"}, c.lines...), "\n"), nil); !equalFiles(f, api.File{}) || e != c.want {
			t.Errorf("Load of %.300q = %.300q, %d, want %d", c.lines, shown(f), e, c.want)
		}
	}
}

func TestTheNumbersOfLines(t *testing.T) {
	names := strings.Join(numbered("n", 21), " ")
	long := "v = " + strings.Repeat("v", 1500)
	for s, want := range map[string]api.Errno{
		"": api.ErrForm, "a b": api.ErrForm, "$": api.ErrForm, "a : $(q)": api.ErrNone, "$(v)$(v) : a": api.ErrLarge,
		"a a : b": api.ErrThere, "a : b b": api.ErrThere, names + " :": api.ErrLarge, "a : " + names: api.ErrLarge,
		".PHONY : " + names: api.ErrLarge, ".PHONY a : b": api.ErrForm,
		// Of the errors of one line the first one decides.
		"$ $(q)": api.ErrForm, "$(q) " + strings.Repeat("$(v)", 2): api.ErrNone, "$(q) a a": api.ErrNone,
		"$(v)$(v) : a a": api.ErrLarge, names: api.ErrForm, ".PHONY a a : b": api.ErrThere, ".PHONY a : b b": api.ErrThere,
		".PHONY a : $(q)": api.ErrNone, ".PHONY a : " + names: api.ErrLarge, ".PHONY a : =": api.ErrForm,
	} {
		others := []string{long, ".PHONY : a b", "a : b", ".c.o :", "w = $(v)", "a : b", ".PHONY :"}
		for at := range len(others) + 1 {
			lines := slices.Insert(slices.Clone(others), at, s)
			wantError(t, at+1, want, lines...)
			// Of several lines with errors the first one decides.
			wantError(t, at+1, want, append(lines, "", "a : $(q)", "a a :")...)
		}
	}
}

// parseByDefinition goes through the lines in the order of the document. The lines are at most 20.
func parseByDefinition(l []string) (api.File, int, api.Errno) {
	var f api.File
	isDefinition := func(s string) bool {
		equals, colon := strings.Index(s, "="), strings.Index(s, ":")
		return equals >= 0 && (colon < 0 || equals < colon)
	}
	for _, s := range l {
		if isDefinition(s) {
			parts := strings.SplitN(s, "=", 2)
			f.Macros = append(f.Macros, api.Macro{Name: strings.Trim(parts[0], " \t"), Value: strings.Trim(parts[1], " \t")})
		}
	}
	if _, e := macro.Flat(f.Macros); e != api.OK {
		return api.File{}, 0, e
	}
	for i, s := range l {
		if isDefinition(s) {
			continue
		}
		expanded, e := macro.Expand(f.Macros, s)
		if e == api.OK {
			e = addByDefinition(&f, expanded)
		}
		if e != api.OK {
			return api.File{}, i + 1, e
		}
	}
	return f, 0, api.OK
}

// addByDefinition adds what the line describes, whose words are letters, dots and other signs.
func addByDefinition(f *api.File, s string) api.Errno {
	targets, needs, found := strings.Cut(s, ":")
	r := api.Rule{Targets: words(targets), Needs: words(needs)}
	if !found || len(r.Targets) == 0 || strings.ContainsAny(targets+needs, ":=$()") {
		return api.ErrForm
	}
	for _, l := range [][]string{r.Targets, r.Needs} {
		sorted := slices.Sorted(slices.Values(l))
		if len(slices.Compact(sorted)) < len(l) {
			return api.ErrThere
		}
	}
	pair, isPair := pairByDefinition(r.Targets[0])
	switch {
	case len(r.Targets) > 1 && slices.Contains(r.Targets, ".PHONY"):
		return api.ErrForm
	case r.Targets[0] == ".PHONY":
		for _, s := range r.Needs {
			if !slices.Contains(f.Phony, s) {
				f.Phony = append(f.Phony, s)
			}
		}
	case isPair && len(r.Targets) == 1 && len(r.Needs) == 0:
		if !slices.Contains(f.Infers, pair) {
			f.Infers = append(f.Infers, pair)
		}
	default:
		f.Rules = append(f.Rules, r)
	}
	return api.OK
}

// compareWithDefinition tests Parse, and that what it returns can be printed and read back.
func compareWithDefinition(t *testing.T, lines ...string) {
	t.Helper()
	want, number, wanted := parseByDefinition(lines)
	f, n, e := Parse(lines)
	if !equalFiles(f, want) || n != number || e != wanted {
		t.Fatalf("Parse(%q) = %q, %d, %d, want %q, %d, %d", lines, shown(f), n, e, shown(want), number, wanted)
	}
	if e != api.OK {
		return
	}
	printed, e := Print(f)
	if e != api.OK || Check(f) != api.OK {
		t.Fatalf("Print(%q) = %d, Check = %d", shown(f), e, Check(f))
	}
	if again, n, e := Parse(printed); !equalFiles(again, f) || n != 0 || e != api.OK {
		t.Fatalf("Parse(%q) = %q, %d, %d, want %q", printed, shown(again), n, e, shown(f))
	}
}

func TestParseOfAllShortLines(t *testing.T) {
	const alphabet = "ab.:= \t"
	lines := []string{""}
	for from, length := 0, 1; length <= 6; length++ {
		to := len(lines)
		for _, s := range lines[from:to] {
			for i := range len(alphabet) {
				lines = append(lines, s+alphabet[i:i+1])
			}
		}
		from = to
	}
	for _, s := range lines {
		compareWithDefinition(t, s)
	}
}

func TestParseOfAllShortLists(t *testing.T) {
	lines := []string{
		"x = a", "x = $(y) b", "y = .c.o", "y = $(x)", "z =", "a : $(x)", "$(y) :", "$(y)$(z) : b", ".PHONY : a $(x)",
		".PHONY : b a", ".PHONY b : a", ".c.o:", ".o.c :", ".c.o : b", "a b:c", "a : b b", "p = .PHONY", "$(p) : c", "a b",
	}
	for _, a := range lines {
		compareWithDefinition(t, a)
		for _, b := range lines {
			compareWithDefinition(t, a, b)
			for _, c := range lines {
				compareWithDefinition(t, a, b, c)
				compareWithDefinition(t, "y = d", a, b, "x = c b", c)
			}
		}
	}
}

func TestTheLinesOfParseAreNotModified(t *testing.T) {
	all := []string{" X = b ", "a : $(X)", ".c.o:", ".PHONY:a", "beyond : a"}
	want := slices.Clone(all)
	if _, _, e := Parse(all[:4]); e != api.OK {
		t.Error(e)
	}
	if _, n, e := Parse([]string{"X = b", "a a :"}[:2]); n != 2 || e != api.ErrThere {
		t.Error(n, e)
	}
	if !slices.Equal(all, want) {
		t.Errorf("the lines are %q", all)
	}
}

// lists returns the lists of names in the file.
func lists(f api.File) [][]string {
	l := [][]string{f.Phony}
	for _, r := range f.Rules {
		l = append(l, r.Targets, r.Needs)
	}
	return l
}

func TestResultsOfParseAreNewMemory(t *testing.T) {
	lines := []string{"X = b", "Y = c", "a e : $(X) d", "f : $(X) d", ".PHONY : a", ".PHONY : b c", ".c.o :", "g : h"}
	want, _, e := Parse(lines)
	if e != api.OK || len(lists(want)) != 7 {
		t.Fatalf("Parse = %q, %d", shown(want), e)
	}
	for i := range lists(want) {
		f, _, _ := Parse(lines)
		overwrite(lists(f)[i])
		for j, l := range lists(f) {
			if i != j && !slices.Equal(l, lists(want)[j]) {
				t.Errorf("the lists %d and %d of the file share memory: %q", i, j, l)
			}
		}
		f.Macros[0], f.Infers[0], f.Rules[0] = api.Macro{}, api.Infer{}, api.Rule{}
	}
	lines[0], lines[2] = "X = z", "y : z"
	if f, e := Load("X = b\nY = c\na e : $(X) d\nf : $(X) d\n.PHONY : a\n.PHONY : b c\n.c.o :\ng : h", nil); !equalFiles(f, want) || e != api.OK {
		t.Errorf("Load = %q, %d, want %q", shown(f), e, shown(want))
	}
}
