package file

import (
	"slices"
	"strings"
	"testing"

	"millwright/api"
)

// wantPrinted tests that Print returns these lines, that Check finds no error, and that Parse reads them back.
func wantPrinted(t *testing.T, f api.File, want ...string) {
	t.Helper()
	if l, e := Print(f); !slices.Equal(l, want) || e != api.OK {
		t.Errorf("Print(%.300q) = %.300q, %d, want %.300q", shown(f), l, e, want)
	}
	if e := Check(f); e != api.OK {
		t.Errorf("Check(%.300q) = %d", shown(f), e)
	}
	if g, n, e := Parse(want); !equalFiles(f, g) || n != 0 || e != api.OK {
		t.Errorf("Parse(%.300q) = %.300q, %d, %d", want, shown(g), n, e)
	}
}

// wantInvalid tests that Check and Print return the error, and nothing else.
func wantInvalid(t *testing.T, f api.File, want api.Errno) {
	t.Helper()
	if e := Check(f); e != want {
		t.Errorf("Check(%.300q) = %d, want %d", shown(f), e, want)
	}
	if l, e := Print(f); len(l) != 0 || e != want {
		t.Errorf("Print(%.300q) = %.300q, %d, want %d", shown(f), l, e, want)
	}
}

func TestPrint(t *testing.T) {
	wantPrinted(t, api.File{})
	wantPrinted(t, api.File{Macros: []api.Macro{}, Phony: []string{}, Infers: []api.Infer{}, Rules: []api.Rule{}})
	wantPrinted(t, api.File{Macros: macros("X", "b", "A", "$(X) : = $$")}, "X = b", "A = $(X) : = $$")
	wantPrinted(t, api.File{Macros: macros("X", "")}, "X = ")
	wantPrinted(t, api.File{Macros: macros("X", "a \t b", "Y", "a\nb#\\")}, "X = a \t b", "Y = a\nb#\\")
	wantPrinted(t, api.File{Macros: macros(".PHONY", "a", ".c.o", ":", "include", "f")}, ".PHONY = a", ".c.o = :", "include = f")
	wantPrinted(t, api.File{Phony: words("b")}, ".PHONY : b")
	wantPrinted(t, api.File{Phony: words("b a .PHONY .c.o")}, ".PHONY : b a .PHONY .c.o")
	wantPrinted(t, api.File{Infers: infers(".o", ".c", ".c", ".o", ".c", ".c")}, ".o.c :", ".c.o :", ".c.c :")
	wantPrinted(t, api.File{Rules: rules("a :")}, "a :")
	wantPrinted(t, api.File{Rules: rules("b a : d c", "a : .PHONY", "b a : d c")}, "b a : d c", "a : .PHONY", "b a : d c")
	wantPrinted(t, api.File{Rules: rules(".c.o : a", ".c.o a :", ".c.o.d :", "a :")}, ".c.o : a", ".c.o a :", ".c.o.d :", "a :")
	wantPrinted(t, api.File{
		Macros: macros("Y", "1", "X", "2"), Phony: words("all"), Infers: infers(".c", ".o"), Rules: rules("z : y", "a b : c"),
	}, "Y = 1", "X = 2", ".PHONY : all", ".c.o :", "z : y", "a b : c")
	// A rule or a name may be the same as a macro.
	wantPrinted(t, api.File{Macros: macros("a", "b"), Phony: words("a"), Rules: rules("a : a")}, "a = b", ".PHONY : a", "a : a")
}

func TestPrintOfWhatWasParsed(t *testing.T) {
	f, _, e := Parse([]string{"all:$(O)  p", "O = a.o\tb.o ", ".c.o:", ".PHONY:all", " .PHONY :\tclean all", "V=", ".c.o :", "a.o b.o:$(V)h"})
	if e != api.OK {
		t.Fatal(e)
	}
	wantPrinted(t, f, "O = a.o\tb.o", "V = ", ".PHONY : all clean", ".c.o :", "all : a.o b.o p", "a.o b.o : h")
}

func TestCheckOfInvalidMacros(t *testing.T) {
	for _, c := range []struct {
		name, value string
		want        api.Errno
	}{
		{"", "a", api.ErrForm},
		{"", "", api.ErrForm},
		{" ", "a", api.ErrForm},
		{"a b", "c", api.ErrForm},
		{"$(a)", "c", api.ErrForm},
		{strings.Repeat("n", 41), "c", api.ErrForm},
		{"x", "$", api.ErrForm},
		{"x", "$(y)", api.ErrNone},
		{"x", "$(x)", api.ErrCycle},
		{"x", strings.Repeat("v", 2001), api.ErrLarge},
		// The line defines another macro.
		{"x ", "a", api.ErrForm},
		{"\tx", "a", api.ErrForm},
		{"x", " a", api.ErrForm},
		{"x", "a ", api.ErrForm},
		{"x", "a\t", api.ErrForm},
		{"x", " ", api.ErrForm},
		{"x=", "a", api.ErrForm},
		{"x=y", "a", api.ErrForm},
		{"=", "", api.ErrForm},
		// The line defines no macro.
		{":", "a", api.ErrForm},
		{"x:", "a", api.ErrForm},
		{"x : y", "a", api.ErrForm},
		{"x : $(y)", "a", api.ErrNone},
		{"x : y y", "a", api.ErrForm},
		{"x : y", strings.Repeat(" y", 21), api.ErrLarge},
		{".PHONY : a", "", api.ErrForm},
	} {
		wantInvalid(t, api.File{Macros: macros(c.name, c.value)}, c.want)
		wantInvalid(t, api.File{Macros: macros("v", "w", c.name, c.value), Rules: rules("a : b")}, c.want)
	}
	wantInvalid(t, api.File{Macros: macros("x", "a", "x", "a")}, api.ErrThere)
	wantInvalid(t, api.File{Macros: macros("x", "$(y)", "y", "$(x)")}, api.ErrCycle)
	wantInvalid(t, api.File{Macros: macros("a : b\tc", "", "x", "y")}, api.ErrForm)
}

func TestCheckOfInvalidPhonyNames(t *testing.T) {
	for _, c := range []struct {
		l    []string
		want api.Errno
	}{
		{[]string{"a", "a"}, api.ErrThere},
		{[]string{"a", "b", "a"}, api.ErrThere},
		{[]string{""}, api.ErrForm},
		{[]string{"a", ""}, api.ErrForm},
		{[]string{" "}, api.ErrForm},
		{[]string{" a"}, api.ErrForm},
		{[]string{"a\t"}, api.ErrForm},
		{[]string{"a b"}, api.ErrForm},
		{[]string{"a a"}, api.ErrThere},
		{[]string{":"}, api.ErrForm},
		{[]string{"="}, api.ErrForm},
		{[]string{"a=b"}, api.ErrForm},
		{[]string{"$$"}, api.ErrForm},
		{[]string{"$"}, api.ErrForm},
		{[]string{"$(q)"}, api.ErrNone},
		{[]string{"$(x)"}, api.ErrForm},
		{[]string{"a", "$(x)"}, api.ErrForm},
		{[]string{"y", "$(x)"}, api.ErrThere},
		{[]string{strings.Repeat("n", 41)}, api.ErrForm},
		{numbered("n", 21), api.ErrLarge},
		{slices.Repeat([]string{"a"}, 21), api.ErrLarge},
	} {
		wantInvalid(t, api.File{Macros: macros("x", "y"), Phony: c.l}, c.want)
	}
	wantPrinted(t, api.File{Phony: numbered("n", 20)}, ".PHONY : "+strings.Join(numbered("n", 20), " "))
}

func TestCheckOfInvalidInferences(t *testing.T) {
	for _, c := range []struct {
		from, to string
		want     api.Errno
	}{
		{"", "", api.ErrForm},
		{"a", ".o", api.ErrForm},
		{".c", "o", api.ErrForm},
		{".c", "", api.ErrForm},
		{"", ".o", api.ErrForm},
		{".", ".o", api.ErrForm},
		{".c", ".", api.ErrForm},
		{".c", ".o/", api.ErrForm},
		{".c", ".o.p", api.ErrForm},
		{"..c", ".o", api.ErrForm},
		{".c ", ".o", api.ErrForm},
		{".c", ".o ", api.ErrForm},
		{".c", ".o : a", api.ErrForm},
		{".c", ".o :", api.ErrForm},
		{".c :", ".o", api.ErrForm},
		{".c", ".=", api.ErrForm},
		{".PHONY", "", api.ErrForm},
		{".PHONY :", "a", api.ErrForm},
		{".c$(e)", ".o", api.ErrForm},
		{".c$(q)", ".o", api.ErrNone},
		{".$", ".o", api.ErrForm},
		{".c", "." + strings.Repeat("n", 38), api.ErrForm},
		// The line has the right pair, but the parts are divided elsewhere.
		{".c.o", "", api.ErrForm},
		{"", ".c.o", api.ErrForm},
		{".c.", "o", api.ErrForm},
		{".", "c.o", api.ErrForm},
	} {
		f := api.File{Macros: macros("e", ""), Infers: infers(c.from, c.to)}
		wantInvalid(t, f, c.want)
	}
	wantInvalid(t, api.File{Infers: infers(".c", ".o", ".c", ".o")}, api.ErrForm)
	wantInvalid(t, api.File{Infers: infers(".c", ".o", ".o", ".p", ".c", ".o")}, api.ErrForm)
	long := "." + strings.Repeat("n", 37)
	wantPrinted(t, api.File{Infers: infers(long, ".o")}, long+".o :")
}

func TestCheckOfInvalidRules(t *testing.T) {
	for _, c := range []struct {
		r    api.Rule
		want api.Errno
	}{
		{api.Rule{}, api.ErrForm},
		{api.Rule{Needs: words("a")}, api.ErrForm},
		{api.Rule{Targets: words("a a")}, api.ErrThere},
		{api.Rule{Targets: words("a"), Needs: words("b b")}, api.ErrThere},
		{api.Rule{Targets: numbered("n", 21)}, api.ErrLarge},
		{api.Rule{Targets: words("a"), Needs: numbered("n", 21)}, api.ErrLarge},
		{api.Rule{Targets: []string{""}}, api.ErrForm},
		{api.Rule{Targets: []string{"a", ""}}, api.ErrForm},
		{api.Rule{Targets: []string{"a b"}}, api.ErrForm},
		{api.Rule{Targets: []string{" a"}}, api.ErrForm},
		{api.Rule{Targets: []string{"a a"}}, api.ErrThere},
		{api.Rule{Targets: words("a"), Needs: []string{""}}, api.ErrForm},
		{api.Rule{Targets: words("a"), Needs: []string{"b c"}}, api.ErrForm},
		{api.Rule{Targets: words("a"), Needs: []string{"b\t"}}, api.ErrForm},
		{api.Rule{Targets: words("a"), Needs: []string{"\xff"}}, api.ErrForm},
		{api.Rule{Targets: []string{"a:"}}, api.ErrForm},
		{api.Rule{Targets: []string{"a : b"}}, api.ErrForm},
		{api.Rule{Targets: words("a"), Needs: []string{":"}}, api.ErrForm},
		{api.Rule{Targets: words("a"), Needs: []string{"="}}, api.ErrForm},
		{api.Rule{Targets: []string{"$"}}, api.ErrForm},
		{api.Rule{Targets: []string{"$(q)"}}, api.ErrNone},
		{api.Rule{Targets: words("a"), Needs: []string{"$(q)"}}, api.ErrNone},
		// The line describes another rule, or something other than a rule.
		{api.Rule{Targets: []string{"$(x)"}}, api.ErrForm},
		{api.Rule{Targets: words("a"), Needs: []string{"$(x)"}}, api.ErrForm},
		{api.Rule{Targets: words(".c.o")}, api.ErrForm},
		{api.Rule{Targets: words(".PHONY")}, api.ErrForm},
		{api.Rule{Targets: words(".PHONY"), Needs: words("a")}, api.ErrForm},
		{api.Rule{Targets: words("a .PHONY"), Needs: words("b")}, api.ErrForm},
		{api.Rule{Targets: []string{"z = a"}}, api.ErrForm},
		{api.Rule{Targets: []string{"z=$(q)"}}, api.ErrNone},
		{api.Rule{Targets: []string{"z=$(z)"}}, api.ErrCycle},
		{api.Rule{Targets: []string{"x=y"}}, api.ErrThere},
	} {
		wantInvalid(t, api.File{Macros: macros("x", "y"), Rules: []api.Rule{c.r}}, c.want)
		wantInvalid(t, api.File{Macros: macros("x", "y"), Rules: append(rules("v : w"), c.r)}, c.want)
	}
	full := api.Rule{Targets: numbered(strings.Repeat("t", 36), 20), Needs: numbered(strings.Repeat("n", 36), 20)}
	wantPrinted(t, api.File{Rules: []api.Rule{full}}, strings.Join(full.Targets, " ")+" : "+strings.Join(full.Needs, " "))
}

func TestCheckOfPartsInOtherPlaces(t *testing.T) {
	// The lines describe a file, but each part of it belongs elsewhere or comes in another order.
	for _, f := range []api.File{
		{Phony: words("a"), Rules: rules(".PHONY : b")},
		{Phony: words("a"), Rules: rules(".PHONY : a")},
		{Phony: words("a"), Rules: rules(".PHONY :")},
		{Infers: infers(".c", ".o"), Rules: rules(".c.o :")},
		{Infers: infers(".PHONY :", " a")},
		{Infers: infers("a : ", "b")},
		{Infers: infers("x = ", "y")},
		{Macros: macros("a", "b"), Infers: infers("x = ", "y")},
	} {
		wantInvalid(t, f, api.ErrForm)
	}
}

func TestCheckUpToTheLimits(t *testing.T) {
	var full api.File
	for _, s := range numbered("m", 40) {
		full.Macros = append(full.Macros, api.Macro{Name: s, Value: s})
	}
	full.Phony = numbered("p", 20)
	for _, s := range numbered(".f", 59) {
		full.Infers = append(full.Infers, api.Infer{From: s, To: ".o"})
	}
	full.Rules = slices.Repeat(rules("a b : c"), 100)
	if l, e := Print(full); len(l) != 200 || e != api.OK || Check(full) != api.OK {
		t.Errorf("Print of 200 lines has %d lines, error %d", len(l), e)
	}
	more := full
	more.Infers = append(slices.Clone(full.Infers), api.Infer{From: ".c", To: ".o"})
	wantInvalid(t, more, api.ErrLarge)
	more.Phony = nil
	if l, e := Print(more); len(l) != 200 || e != api.OK {
		t.Errorf("Print of 200 lines has %d lines, error %d", len(l), e)
	}
	wantInvalid(t, api.File{Macros: append(slices.Clone(full.Macros), macros("x", "y")...)}, api.ErrLarge)
	wantInvalid(t, api.File{Rules: slices.Repeat(rules("a : b"), 101)}, api.ErrLarge)
	// Too many lines come before everything else, and the error of Parse before a difference.
	wantInvalid(t, api.File{Rules: make([]api.Rule, 201)}, api.ErrLarge)
	wantInvalid(t, api.File{Rules: make([]api.Rule, 200)}, api.ErrForm)
	wantInvalid(t, api.File{Macros: make([]api.Macro, 201)}, api.ErrLarge)
	wantInvalid(t, api.File{Macros: macros("x", "$(q)"), Infers: infers(".c.o", "")}, api.ErrNone)
	wantInvalid(t, api.File{Macros: macros("x", " a"), Rules: rules("a a :")}, api.ErrThere)
	wantInvalid(t, api.File{Macros: macros("x", "$(x)"), Phony: words("a a"), Rules: rules(":")}, api.ErrCycle)
	wantInvalid(t, api.File{Phony: words("a a"), Rules: rules(": b")}, api.ErrThere)
	wantInvalid(t, api.File{Infers: infers("", ""), Rules: rules("a a :")}, api.ErrForm)
}

func TestCheckOfLargeFiles(t *testing.T) {
	many := slices.Repeat([]string{"a"}, 100000)
	for _, f := range []api.File{
		{Macros: make([]api.Macro, 100000)},
		{Macros: macros("x", strings.Repeat("$$", 100000))},
		{Phony: many},
		{Infers: make([]api.Infer, 100000)},
		{Rules: make([]api.Rule, 100000)},
		{Rules: []api.Rule{{Targets: many, Needs: many}}},
		{Rules: []api.Rule{{Targets: []string{strings.Repeat("a", 100000)}}}},
	} {
		wantInvalid(t, f, api.ErrLarge)
	}
}

func TestTheFileIsNotModified(t *testing.T) {
	same := func() api.File {
		return api.File{Macros: macros("X", "b", "beyond", "a")[:1], Phony: words("b a beyond")[:2], Infers: infers(".c", ".o", ".x", ".y")[:1], Rules: rules("c b : z y", "beyond :")[:1]}
	}
	f := same()
	f.Rules[0].Needs = words("z y beyond")[:2]
	want := "X = b;.PHONY : b a;.c.o :;c b : z y"
	if l, e := Print(f); strings.Join(l, ";") != want || e != api.OK || Check(f) != api.OK {
		t.Errorf("Print = %q, %d", l, e)
	}
	if !equalFiles(f, same()) {
		t.Errorf("the file is %q", shown(f))
	}
	if f.Macros[:2][1].Name != "beyond" || f.Phony[:3][2] != "beyond" || f.Infers[:2][1].From != ".x" || f.Rules[:2][1].Targets[0] != "beyond" || f.Rules[0].Needs[:3][2] != "beyond" {
		t.Error("Print wrote beyond the length of a slice")
	}
	first, _ := Print(f)
	second, _ := Print(f)
	overwrite(first)
	if strings.Join(second, ";") != want || !equalFiles(f, same()) {
		t.Errorf("the lines %q share memory", second)
	}
}

func TestLoad(t *testing.T) {
	x := texts("rules.mk", ".c.o : # by the compiler\ninclude macros.mk\np : $(O)\n", "macros.mk", "O = a.o \\\n b.o\n")
	for s, want := range map[string]api.File{
		"":                  {},
		"# nothing":         {},
		"include macros.mk": {Macros: macros("O", "a.o  b.o")},
		"include rules.mk\n.PHONY : all\nall : p":              {Macros: macros("O", "a.o  b.o"), Phony: words("all"), Infers: infers(".c", ".o"), Rules: rules("p : a.o b.o", "all : p")},
		"q : $(O)\ninclude macros.mk":                          {Macros: macros("O", "a.o  b.o"), Rules: rules("q : a.o b.o")},
		"N = macros.mk\na : $(N)\ninclude rules.mk\nb : \\\nc": {Macros: macros("N", "macros.mk", "O", "a.o  b.o"), Infers: infers(".c", ".o"), Rules: rules("a : macros.mk", "p : a.o b.o", "b : c")},
	} {
		if f, e := Load(s, x); !equalFiles(f, want) || e != api.OK {
			t.Errorf("Load(%q) = %q, %d, want %q", s, shown(f), e, shown(want))
		}
	}
}

func TestTheErrorsOfLoad(t *testing.T) {
	x := texts("m", "O = a", "bad", "a b", "deep", "x : y\ninclude bad", "self", "include self", "byte", "\r")
	for s, want := range map[string]api.Errno{
		"a b": api.ErrForm, "a : b b": api.ErrThere, "a : $(q)": api.ErrNone, "include bad": api.ErrForm,
		"include deep": api.ErrForm, "O = $(O)": api.ErrCycle, "include m\ninclude m": api.ErrThere,
		"include m\nO = b": api.ErrThere, strings.Repeat("a :\n", 101): api.ErrLarge,
		// The errors of Lines come first.
		"a : b b\ninclude q": api.ErrNone, "a : b b\ninclude self": api.ErrCycle, "O = $(O)\ninclude byte": api.ErrForm,
		"a b\ninclude q": api.ErrNone, "a b\ninclude": api.ErrForm, "a : $(q)\n" + strings.Repeat("a :\n", 200): api.ErrLarge,
		// A directive is not expanded.
		"O = m\ninclude $(O)": api.ErrNone,
	} {
		if f, e := Load(s, x); !equalFiles(f, api.File{}) || e != want {
			t.Errorf("Load(%.100q) = %q, %d, want %d", s, shown(f), e, want)
		}
	}
	if f, e := Load("a b", texts("f", "", "f", "")); !equalFiles(f, api.File{}) || e != api.ErrThere {
		t.Errorf("Load = %q, %d", shown(f), e)
	}
}

func TestLoadOfPrintedLines(t *testing.T) {
	f := api.File{Macros: macros("X", "b $$", "Y", "$(X)"), Phony: words("all a"), Infers: infers(".c", ".o"), Rules: rules("all : a", "a b : c d")}
	l, e := Print(f)
	if e != api.OK {
		t.Fatal(e)
	}
	if g, e := Load(strings.Join(l, "\n"), nil); !equalFiles(f, g) || e != api.OK {
		t.Errorf("Load of %q = %q, %d", l, shown(g), e)
	}
	if g, e := Load("include f", texts("f", strings.Join(l, "\n"))); !equalFiles(f, g) || e != api.OK {
		t.Errorf("Load of %q = %q, %d", l, shown(g), e)
	}
}
