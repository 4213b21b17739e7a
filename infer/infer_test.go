package infer

import (
	"slices"
	"strconv"
	"strings"
	"testing"

	"millwright/api"
)

// longName is a name of the greatest length.
const longName = "abcdefghijklmnopqrstuvwxyz0123456789_+-x"

// invalidNames has strings that are not names, each for another reason.
var invalidNames = []string{"", " ", "a b", "a\t", "a:", "a=b", "$(a)", "a*", "a\n", "a\x00", "a\\", "\u00e9.o", "\xff", longName + "x"}

// invalidSuffixes has strings that may not be a part of an inference, each for another reason.
var invalidSuffixes = []string{
	"", ".", "..", "c", "cc", "c.", "c.o", "a.c", ".c.", "..c", ".c.o", "/", "./", "./c", ".c/", "/.c", ".c/o", " .c", ".c ", ". c", ".c o",
	".c:", ".$c", ".c=", ".*", ".c\n", ".\x00", ".\u00e9", ".\xff", "\xff.c", ".abcdefghij", "abcdefghij", "." + strings.Repeat("x", 39), "." + strings.Repeat("x", 5000),
}

// words returns the words in s.
func words(s string) []string { return strings.Fields(s) }

// infers returns the inferences that s describes, such as ".c>.o .y>.c", without any check.
func infers(s string) []api.Infer {
	var l []api.Infer
	for _, pair := range words(s) {
		from, to, _ := strings.Cut(pair, ">")
		l = append(l, api.Infer{From: from, To: to})
	}
	return l
}

// rules returns the rules of the lines, each of which has one colon, without any check.
func rules(lines ...string) []api.Rule {
	var l []api.Rule
	for _, s := range lines {
		targets, needs, _ := strings.Cut(s, ":")
		l = append(l, api.Rule{Targets: words(targets), Needs: words(needs)})
	}
	return l
}

// shown returns the rules as lines, in which different rules look different.
func shown(l []api.Rule) []string {
	var lines []string
	for _, r := range l {
		var s strings.Builder
		for _, x := range r.Targets {
			s.WriteString(strconv.Quote(x))
		}
		s.WriteString(":")
		for _, x := range r.Needs {
			s.WriteString(strconv.Quote(x))
		}
		lines = append(lines, s.String())
	}
	return lines
}

// numbered returns n distinct names that begin with s, in increasing order.
func numbered(s string, n int) []string {
	var l []string
	for i := range n {
		l = append(l, s+strconv.Itoa(1000+i))
	}
	return l
}

// distinctInfers returns n inferences, all different.
func distinctInfers(n int) []api.Infer {
	var l []api.Infer
	for i := range n {
		l = append(l, api.Infer{From: ".f" + strconv.Itoa(i), To: ".o"})
	}
	return l
}

// overwrite changes all memory of the slice, also beyond its length.
func overwrite(l []string) {
	for i := range l[:cap(l)] {
		l[:cap(l)][i] = "overwritten"
	}
}

func TestCheck(t *testing.T) {
	for s, want := range map[string]api.Errno{
		"":                        api.OK,
		".c>.o":                   api.OK,
		".y>.c .c>.o":             api.OK,
		".c>.o .s>.o":             api.OK,
		".c>.o .c>.s":             api.OK,
		".c>.o .o>.c":             api.OK,
		".a>.b .b>.c .c>.a":       api.OK,
		".C>.c .c>.C":             api.OK,
		".->.+ ._>.-":             api.OK,
		".a-b+c_d9>.0":            api.OK,
		".abcdefghi>.123456789":   api.OK,
		".abcdefghij>.o":          api.ErrForm,
		".o>.abcdefghij":          api.ErrForm,
		".c>.c":                   api.ErrThere,
		".c>.o .o>.o":             api.ErrThere,
		".c>.o .c>.o":             api.ErrThere,
		".c>.o .s>.o .c>.o":       api.ErrThere,
		".c>.o .o>.c .s>.o .o>.c": api.ErrThere,
	} {
		if e := Check(infers(s)); e != want {
			t.Errorf("Check(%q) = %d, want %d", s, e, want)
		}
	}
}

func TestCheckOfInvalidSuffixes(t *testing.T) {
	for _, bad := range invalidSuffixes {
		for _, x := range []api.Infer{{From: bad, To: ".o"}, {From: ".o", To: bad}, {From: bad, To: bad}} {
			for at := range 3 {
				if l := slices.Insert(infers(".y>.c .c>.o"), at, x); Check(l) != api.ErrForm {
					t.Errorf("Check(%q) = %d, want ErrForm", l, Check(l))
				}
			}
		}
	}
}

func TestCheckOfEveryByte(t *testing.T) {
	const allowed = "abcdefghijklmnopqrstuvwxyzABCDEFGHIJKLMNOPQRSTUVWXYZ0123456789_-+"
	for c := range 256 {
		b := string([]byte{byte(c)})
		want := api.ErrForm
		if strings.Contains(allowed, b) {
			want = api.OK
		}
		for _, s := range []string{"." + b, "." + b + "x", ".x" + b, ".x" + b + "x", ".abcdefgh" + b, "." + b + "abcdefgh"} {
			for _, l := range [][]api.Infer{{{From: s, To: ".other"}}, {{From: ".other", To: s}}} {
				if e := Check(l); e != want {
					t.Errorf("Check(%q) = %d, want %d", l, e, want)
				}
			}
		}
		wantFirst := api.ErrForm
		if b == "." {
			wantFirst = api.OK
		}
		if e := Check([]api.Infer{{From: b + "x", To: ".other"}}); e != wantFirst {
			t.Errorf("Check of the suffix %q = %d, want %d", b+"x", e, wantFirst)
		}
	}
}

func TestCheckOfEveryLength(t *testing.T) {
	for n := range 60 {
		s := "." + strings.Repeat("x", n)
		want := api.ErrForm
		if n >= 1 && len(s) <= 10 {
			want = api.OK
		}
		for _, l := range [][]api.Infer{{{From: s, To: ".o"}}, {{From: ".o", To: s}}} {
			if e := Check(l); e != want {
				t.Errorf("Check(%q) = %d, want %d", l, e, want)
			}
		}
	}
}

func TestCheckUpToTheNumberOfInferences(t *testing.T) {
	for n := range 30 {
		want := api.OK
		if n > 20 {
			want = api.ErrLarge
		}
		if e := Check(distinctInfers(n)); e != want {
			t.Errorf("Check of %d inferences = %d, want %d", n, e, want)
		}
	}
	// Every earlier inference counts, and all of them are looked at.
	for i := range 19 {
		for k := i + 1; k < 20; k++ {
			l := distinctInfers(20)
			l[k] = l[i]
			if e := Check(l); e != api.ErrThere {
				t.Errorf("Check with equal inferences %d and %d = %d, want ErrThere", i, k, e)
			}
		}
	}
}

func TestTheErrorsOfCheck(t *testing.T) {
	form, same := api.Infer{From: "c", To: ".o"}, api.Infer{From: ".o", To: ".o"}
	ok := api.Infer{From: ".c", To: ".o"}
	for _, c := range []struct {
		l    []api.Infer
		want api.Errno
	}{
		// Too many of them come first.
		{make([]api.Infer, 21), api.ErrLarge},
		{slices.Repeat([]api.Infer{same}, 21), api.ErrLarge},
		{slices.Repeat([]api.Infer{ok}, 21), api.ErrLarge},
		{append(distinctInfers(20), form), api.ErrLarge},
		{make([]api.Infer, 20), api.ErrForm},
		{slices.Repeat([]api.Infer{ok}, 20), api.ErrThere},
		// Then the first inference with an error decides.
		{[]api.Infer{form, same}, api.ErrForm},
		{[]api.Infer{same, form}, api.ErrThere},
		{[]api.Infer{ok, form, ok}, api.ErrForm},
		{[]api.Infer{ok, ok, form}, api.ErrThere},
		{[]api.Infer{ok, ok, same}, api.ErrThere},
		{append(distinctInfers(19), form), api.ErrForm},
		{append(distinctInfers(19), same), api.ErrThere},
		// Of one inference, its form.
		{[]api.Infer{{From: "o", To: "o"}}, api.ErrForm},
		{[]api.Infer{{}}, api.ErrForm},
		{[]api.Infer{{}, {}}, api.ErrForm},
		{[]api.Infer{ok, {From: ".a.b", To: ".a.b"}}, api.ErrForm},
	} {
		if e := Check(c.l); e != c.want {
			t.Errorf("Check(%q) = %d, want %d", c.l, e, c.want)
		}
		if s, ok, e := Of(c.l, []string{"a.c"}, "a.o"); s != "" || ok || e != c.want {
			t.Errorf("Of(%q) = %q, %v, %d, want %d", c.l, s, ok, e, c.want)
		}
		if r, e := Fill(rules("a.o :"), c.l, []string{"a.c"}); len(r) != 0 || e != c.want {
			t.Errorf("Fill with %q = %q, %d, want %d", c.l, shown(r), e, c.want)
		}
	}
}

func TestArgumentsAreNotModified(t *testing.T) {
	lists := [][]string{words("p z.o a.o"), words("z.o a.o b.h a.o"), words("z.c a.c h b.c z.c")}
	targets, needs, there := slices.Clone(lists[0]), slices.Clone(lists[1]), slices.Clone(lists[2])
	pairs := infers(".c>.o .y>.c .s>.o")
	all := []api.Rule{{Targets: targets[:1], Needs: needs[:3]}, {Targets: targets[1:2]}, {Targets: []string{"q"}, Needs: needs[3:]}}
	before := shown(all)
	for n := range len(there) + 1 {
		for k := range len(pairs) + 1 {
			for i := range len(all) + 1 {
				Check(pairs[:k])
				Of(pairs[:k], there[:n], "z.o")
				Fill(all[:i], pairs[:k], there[:n])
			}
		}
	}
	for i, l := range [][]string{targets, needs, there} {
		if !slices.Equal(l, lists[i]) {
			t.Errorf("the list %q became %q", lists[i], l)
		}
	}
	if !slices.Equal(pairs, infers(".c>.o .y>.c .s>.o")) || !slices.Equal(shown(all), before) {
		t.Errorf("the inferences are %q and the rules %q", pairs, shown(all))
	}
}

func TestResultsOfFillAreNewMemory(t *testing.T) {
	lines := []string{"p q : a.o b.o", "b.o :", "q : h", "c.o :", "r s :"}
	l, there := infers(".c>.o"), words("b.c a.c")
	want := shown(rules("a.o : a.c", "b.o : b.c", "c.o :", "p : a.o b.o", "q : a.o b.o h", "r :", "s :"))
	r := rules(lines...)
	filled, e := Fill(r, l, there)
	if !slices.Equal(shown(filled), want) || e != api.OK {
		t.Fatalf("Fill = %q, %d", shown(filled), e)
	}
	for i := range filled {
		overwrite(filled[i].Targets)
		if got := shown(filled[i : i+1])[0]; len(filled[i].Needs) > 0 && !strings.HasSuffix(got, strings.SplitN(want[i], ":", 2)[1]) {
			t.Errorf("the needs of rule %d share memory with its target: %q", i, got)
		}
		overwrite(filled[i].Needs)
		if !slices.Equal(shown(filled[i+1:]), want[i+1:]) {
			t.Fatalf("a part of rule %d is shared: %q", i, shown(filled))
		}
	}
	filled, _ = Fill(r, l, there)
	for i := len(filled) - 1; i >= 0; i-- {
		overwrite(filled[i].Needs)
		overwrite(filled[i].Targets)
		if !slices.Equal(shown(filled[:i]), want[:i]) {
			t.Fatalf("a part of rule %d is shared: %q", i, shown(filled))
		}
	}
	if !slices.Equal(shown(r), shown(rules(lines...))) || !slices.Equal(there, words("b.c a.c")) {
		t.Errorf("Fill returned a part of its arguments %q and %q", shown(r), there)
	}
	filled, _ = Fill(r, l, there)
	for i := range r {
		overwrite(r[i].Targets)
		overwrite(r[i].Needs)
	}
	overwrite(there)
	clear(l)
	if !slices.Equal(shown(filled), want) {
		t.Errorf("Fill kept its arguments: %q", shown(filled))
	}
}
