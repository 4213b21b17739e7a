package rule

import (
	"maps"
	"slices"
	"strconv"
	"strings"
	"testing"

	"millwright/api"
)

// longName is a name of the greatest length.
const longName = "abcdefghijklmnopqrstuvwxyz0123456789_./-"

// invalid has strings that are not names, each for another reason.
var invalid = []string{"", " ", "a b", "a\t", "a:", ":", "$(a)", "a=b", "a#", "\n", "\x00", "\u00e9", "\xff", longName + "+"}

// words returns the names in s.
func words(s string) []string { return strings.Fields(s) }

// of returns the rule with these targets and needs, without any check.
func of(targets, needs string) api.Rule {
	return api.Rule{Targets: words(targets), Needs: words(needs)}
}

// rules returns the rules of the lines, each of which has one colon, without any check.
func rules(lines ...string) []api.Rule {
	var l []api.Rule
	for _, s := range lines {
		targets, needs, _ := strings.Cut(s, ":")
		l = append(l, of(targets, needs))
	}
	return l
}

// numbered returns n distinct names that begin with s, in increasing order.
func numbered(s string, n int) []string {
	var l []string
	for i := range n {
		l = append(l, s+strconv.Itoa(1000+i))
	}
	return l
}

// allStrings returns the strings of up to n bytes, each of them from the alphabet.
func allStrings(alphabet string, n int) []string {
	l := []string{""}
	for from := 0; n > 0; n-- {
		to := len(l)
		for _, s := range l[from:to] {
			for i := range len(alphabet) {
				l = append(l, s+alphabet[i:i+1])
			}
		}
		from = to
	}
	return l
}

// arrangements returns the lists of distinct strings of l, in every order.
func arrangements(l []string) [][]string {
	all := [][]string{nil}
	for i := 0; i < len(all); i++ {
		for _, s := range l {
			if !slices.Contains(all[i], s) {
				all = append(all, append(slices.Clone(all[i]), s))
			}
		}
	}
	return all
}

// isName reports whether s is a name, by the definition of chapter 3.
func isName(s string) bool {
	for i := range len(s) {
		c := s[i]
		letter := 'a' <= c && c <= 'z' || 'A' <= c && c <= 'Z' || '0' <= c && c <= '9'
		if !letter && c != '_' && c != '.' && c != '/' && c != '-' && c != '+' {
			return false
		}
	}
	return 1 <= len(s) && len(s) <= 40
}

// checkByDefinition goes through the errors of Check in the order of the document.
func checkByDefinition(r api.Rule) api.Errno {
	switch {
	case len(r.Targets) > 20, len(r.Needs) > 20:
		return api.ErrLarge
	case len(r.Targets) == 0:
		return api.ErrForm
	}
	for _, l := range [][]string{r.Targets, r.Needs} {
		for _, s := range l {
			if !isName(s) {
				return api.ErrForm
			}
		}
	}
	for _, l := range [][]string{r.Targets, r.Needs} {
		for i, s := range l {
			for _, earlier := range l[:i] {
				if s == earlier {
					return api.ErrThere
				}
			}
		}
	}
	return api.OK
}

// parseByDefinition reads s byte by byte.
func parseByDefinition(s string) (api.Rule, api.Errno) {
	var parts [2][]string
	after, word := 0, ""
	end := func() {
		if word != "" {
			parts[after] = append(parts[after], word)
		}
		word = ""
	}
	for i := range len(s) {
		switch c := s[i]; {
		case c == ' ' || c == '\t':
			end()
		case c == ':' && after == 0:
			end()
			after = 1
		default:
			word += string([]byte{c})
		}
	}
	end()
	if after == 0 {
		return api.Rule{}, api.ErrForm
	}
	r := api.Rule{Targets: parts[0], Needs: parts[1]}
	if e := checkByDefinition(r); e != api.OK {
		return api.Rule{}, e
	}
	return r, api.OK
}

// joinByDefinition goes through the rules once and collects the needs of every target. The rules have no error.
func joinByDefinition(l []api.Rule) []api.Rule {
	needs := map[string][]string{}
	for _, r := range l {
		for _, target := range r.Targets {
			collected := needs[target]
			for _, need := range r.Needs {
				if !slices.Contains(collected, need) {
					collected = append(collected, need)
				}
			}
			needs[target] = collected
		}
	}
	var joined []api.Rule
	for _, target := range slices.Sorted(maps.Keys(needs)) {
		joined = append(joined, api.Rule{Targets: []string{target}, Needs: needs[target]})
	}
	return joined
}

func equal(a, b api.Rule) bool {
	return slices.Equal(a.Targets, b.Targets) && slices.Equal(a.Needs, b.Needs)
}

// shown returns the rule as one string, for messages.
func shown(r api.Rule) string {
	return strings.Join(r.Targets, ",") + ":" + strings.Join(r.Needs, ",")
}

// shownAll returns the rules as one string, for messages.
func shownAll(l []api.Rule) string {
	var parts []string
	for _, r := range l {
		parts = append(parts, shown(r))
	}
	return strings.Join(parts, ";")
}

// checkError tests that Check, Print and Join of the rule alone return the error, and nothing else if there is one.
func checkError(t *testing.T, r api.Rule, want api.Errno) {
	t.Helper()
	if e := Check(r); e != want {
		t.Errorf("Check(%q) = %d, want %d", shown(r), e, want)
	}
	if s, e := Print(r); e != want || (s == "") != (want != api.OK) {
		t.Errorf("Print(%q) = %q, %d, want %d", shown(r), s, e, want)
	}
	if l, e := Join([]api.Rule{r}); e != want || (len(l) == 0) != (want != api.OK) {
		t.Errorf("Join of %q = %q, %d, want %d", shown(r), shownAll(l), e, want)
	}
}

func TestCheckOfValidRules(t *testing.T) {
	for _, r := range []api.Rule{
		of("a", ""),
		of("a", "b"),
		of("a b", "c d"),
		of("b a", "d c"),
		of("a.o lib/x.o", "a.c a.h"),
		// A target may be a need of its own rule, and names differ by every byte.
		of("a", "a"),
		of("a b", "b a"),
		of("a A a. a/", "a A a. a/"),
		of(".PHONY", "all"),
		of(".c.o", ""),
		of(". .. / -", "+ _ 0"),
		of(longName, longName),
		{Targets: []string{"a"}, Needs: []string{}},
	} {
		checkError(t, r, api.OK)
	}
}

func TestCheckOfNoTarget(t *testing.T) {
	for _, r := range []api.Rule{
		{},
		{Targets: []string{}, Needs: []string{}},
		of("", "a"),
		of("", "a a"),
		{Needs: []string{""}},
	} {
		checkError(t, r, api.ErrForm)
	}
}

func TestCheckOfInvalidNames(t *testing.T) {
	for _, bad := range invalid {
		for at := range 3 {
			l := slices.Insert(words("a b"), at, bad)
			checkError(t, api.Rule{Targets: l}, api.ErrForm)
			checkError(t, api.Rule{Targets: l, Needs: words("a b")}, api.ErrForm)
			checkError(t, api.Rule{Targets: words("a b"), Needs: l}, api.ErrForm)
			checkError(t, api.Rule{Targets: l, Needs: l}, api.ErrForm)
		}
	}
}

func TestCheckOfRepeatedNames(t *testing.T) {
	for _, r := range []api.Rule{
		of("a a", ""),
		of("a a", "b"),
		of("a b a", "c"),
		of("b a a", "c"),
		of("a", "b b"),
		of("a", "b c b"),
		of("a", "c b b"),
		of("a", "a a"),
		of("a a", "b b"),
		of(longName+" "+longName, ""),
	} {
		checkError(t, r, api.ErrThere)
	}
}

func TestCheckUpToTheNumberOfWords(t *testing.T) {
	for _, targets := range []int{1, 19, 20, 21, 22, 40, 1000} {
		for _, needs := range []int{0, 1, 19, 20, 21, 22, 40, 1000} {
			want := api.OK
			if targets > 20 || needs > 20 {
				want = api.ErrLarge
			}
			checkError(t, api.Rule{Targets: numbered("t", targets), Needs: numbered("n", needs)}, want)
		}
	}
}

func TestTheOrderOfTheErrorsOfCheck(t *testing.T) {
	many := numbered("x", 21)
	for _, c := range []struct {
		r    api.Rule
		want api.Errno
	}{
		// Too many words come before everything else.
		{api.Rule{Needs: many}, api.ErrLarge},
		{api.Rule{Targets: make([]string, 21)}, api.ErrLarge},
		{api.Rule{Needs: make([]string, 21)}, api.ErrLarge},
		{api.Rule{Targets: []string{""}, Needs: many}, api.ErrLarge},
		{api.Rule{Targets: many, Needs: []string{""}}, api.ErrLarge},
		{api.Rule{Targets: words("a a"), Needs: many}, api.ErrLarge},
		{api.Rule{Targets: many, Needs: words("a a")}, api.ErrLarge},
		{api.Rule{Targets: slices.Repeat([]string{"a"}, 21)}, api.ErrLarge},
		// Repeated words count, and are repeated up to the limit.
		{api.Rule{Targets: slices.Repeat([]string{"a"}, 20)}, api.ErrThere},
		{api.Rule{Targets: []string{"a"}, Needs: slices.Repeat([]string{"a"}, 20)}, api.ErrThere},
		// No target, and strings that are not names, come before names that are repeated.
		{of("", "b b"), api.ErrForm},
		{api.Rule{Targets: []string{"a", "a", ""}}, api.ErrForm},
		{api.Rule{Targets: []string{"", ""}}, api.ErrForm},
		{api.Rule{Targets: words("a a"), Needs: []string{"b", "$"}}, api.ErrForm},
		{api.Rule{Targets: []string{"a", "$"}, Needs: words("b b")}, api.ErrForm},
		{api.Rule{Targets: []string{"a"}, Needs: []string{"", ""}}, api.ErrForm},
	} {
		checkError(t, c.r, c.want)
	}
}

func TestCheckOfAllShortRules(t *testing.T) {
	lists := [][]string{nil}
	for i := 0; len(lists[i]) < 3; i++ {
		for _, s := range []string{"a", "b", "A", "", ":"} {
			lists = append(lists, append(slices.Clone(lists[i]), s))
		}
	}
	for _, targets := range lists {
		for _, needs := range lists {
			r := api.Rule{Targets: targets, Needs: needs}
			if e, want := Check(r), checkByDefinition(r); e != want {
				t.Fatalf("Check(%q) = %d, want %d", shown(r), e, want)
			}
		}
	}
}

func TestPrint(t *testing.T) {
	for _, c := range []struct {
		r    api.Rule
		want string
	}{
		{of("a", ""), "a :"},
		{of("a b", ""), "a b :"},
		{of("a", "b"), "a : b"},
		{of("a b", "c"), "a b : c"},
		{of("b a", "d c"), "b a : d c"},
		{of("a", "a"), "a : a"},
		{of("lib/x.o", "lib/x.c x.h"), "lib/x.o : lib/x.c x.h"},
		{of(longName, longName), longName + " : " + longName},
	} {
		if s, e := Print(c.r); s != c.want || e != api.OK {
			t.Errorf("Print(%q) = %q, %d, want %q", shown(c.r), s, e, c.want)
		}
	}
}

func TestPrintOfManyWords(t *testing.T) {
	targets, needs := numbered("t", 20), numbered("n", 20)
	want := strings.Join(targets, " ") + " : " + strings.Join(needs, " ")
	if s, e := Print(api.Rule{Targets: targets, Needs: needs}); s != want || e != api.OK {
		t.Errorf("Print = %q, %d, want %q", s, e, want)
	}
}

func TestParse(t *testing.T) {
	for _, c := range []struct {
		s    string
		want api.Rule
	}{
		{"a : b c", of("a", "b c")},
		{"a b : c", of("a b", "c")},
		{"b a:d c", of("b a", "d c")},
		{"a:", of("a", "")},
		{"a :", of("a", "")},
		{" a\t:", of("a", "")},
		{"\t a \t b\t\t:\t c \t", of("a b", "c")},
		{"a:a", of("a", "a")},
		{".PHONY:all clean", of(".PHONY", "all clean")},
		{".c.o:", of(".c.o", "")},
		{"a/b.o:a/b.c ../h.h", of("a/b.o", "a/b.c ../h.h")},
		{longName + ":" + longName, of(longName, longName)},
		{strings.Repeat(" ", 5000) + "a:" + strings.Repeat("\t", 5000) + "b", of("a", "b")},
	} {
		if r, e := Parse(c.s); !equal(r, c.want) || e != api.OK {
			t.Errorf("Parse(%q) = %q, %d, want %q", c.s, shown(r), e, shown(c.want))
		}
	}
}

func TestParseOfInvalidStrings(t *testing.T) {
	many := strings.Join(numbered("x", 21), " ")
	for _, c := range []struct {
		s    string
		want api.Errno
	}{
		{"", api.ErrForm},
		{" ", api.ErrForm},
		{"a", api.ErrForm},
		{"a b", api.ErrForm},
		{"a = b", api.ErrForm},
		{":", api.ErrForm},
		{" \t: ", api.ErrForm},
		{": a", api.ErrForm},
		{"a : b : c", api.ErrForm},
		{"a::b", api.ErrForm},
		{"a : b:", api.ErrForm},
		{"a::", api.ErrForm},
		{"::a", api.ErrForm},
		{"$(a) : b", api.ErrForm},
		{"a : $(b)", api.ErrForm},
		{"a : b # c", api.ErrForm},
		{"a = b : c", api.ErrForm},
		{"a : b;c", api.ErrForm},
		// Only spaces and tabs separate words.
		{"a\nb : c", api.ErrForm},
		{"a : b\n", api.ErrForm},
		{"a : b\rc", api.ErrForm},
		{"a : b\vc\f", api.ErrForm},
		{"a\u00a0: b", api.ErrForm},
		{"a : \u2003b", api.ErrForm},
		{"\xff : \x00", api.ErrForm},
		{longName + "+ : a", api.ErrForm},
		{"a : " + longName + "+", api.ErrForm},
		{"a a : b", api.ErrThere},
		{"a : b b", api.ErrThere},
		{"a : b b :", api.ErrForm},
		{"a b\ta : c", api.ErrThere},
		{many + " :", api.ErrLarge},
		{"a : " + many, api.ErrLarge},
		{": " + many, api.ErrLarge},
		{"$ : " + many, api.ErrLarge},
		{"a : : " + many, api.ErrLarge},
		{strings.Repeat("a ", 21) + ":", api.ErrLarge},
		// Without a colon nothing else counts.
		{many, api.ErrForm},
		{"a a", api.ErrForm},
		{strings.Repeat("a ", 100000), api.ErrForm},
		{strings.Repeat(":", 100000), api.ErrForm},
	} {
		if r, e := Parse(c.s); !equal(r, api.Rule{}) || e != c.want {
			t.Errorf("Parse(%q) = %q, %d, want %d", c.s, shown(r), e, c.want)
		}
	}
}

func TestParseUpToTheNumberOfWords(t *testing.T) {
	for _, n := range []int{19, 20, 21, 1000} {
		l := numbered("x", n)
		for _, c := range []api.Rule{{Targets: l}, {Targets: words("a"), Needs: l}, {Targets: l, Needs: l}} {
			s := strings.Join(c.Targets, " ") + ":" + strings.Join(c.Needs, "\t")
			r, e := Parse(s)
			if n <= 20 && (!equal(r, c) || e != api.OK) {
				t.Errorf("Parse(%q) = %q, %d", s, shown(r), e)
			}
			if n > 20 && (!equal(r, api.Rule{}) || e != api.ErrLarge) {
				t.Errorf("Parse of %d words = %q, %d, want ErrLarge", n, shown(r), e)
			}
		}
	}
}

func TestParseOfAllShortStrings(t *testing.T) {
	for _, s := range allStrings("ab: \t\n", 7) {
		want, wanted := parseByDefinition(s)
		if r, e := Parse(s); !equal(r, want) || e != wanted {
			t.Fatalf("Parse(%q) = %q, %d, want %q, %d", s, shown(r), e, shown(want), wanted)
		}
	}
}

func TestParseOfEveryByte(t *testing.T) {
	for c := range 256 {
		b := string([]byte{byte(c)})
		for _, s := range []string{b, "a" + b + "c:d", "a:c" + b + "d", b + "a:", "a:" + b, "a" + b + ":c", "a" + b + "c"} {
			want, wanted := parseByDefinition(s)
			if r, e := Parse(s); !equal(r, want) || e != wanted {
				t.Errorf("Parse(%q) = %q, %d, want %q, %d", s, shown(r), e, shown(want), wanted)
			}
		}
	}
}

func TestParseReadsWhatPrintReturns(t *testing.T) {
	lists := append(arrangements(words("a B lib/x.o -")), numbered("x", 20))
	for _, targets := range lists[1:] {
		for _, needs := range lists {
			want := api.Rule{Targets: targets, Needs: needs}
			s, e := Print(want)
			r, f := Parse(s)
			if !equal(r, want) || e != api.OK || f != api.OK {
				t.Fatalf("Parse(%q) = %q, %d, printed with %d from %q", s, shown(r), f, e, shown(want))
			}
			if again, e := Print(r); again != s || e != api.OK {
				t.Fatalf("Print(%q) = %q, %d, want %q", shown(r), again, e, s)
			}
		}
	}
}

func TestJoin(t *testing.T) {
	for _, c := range []struct{ l, want []api.Rule }{
		{nil, nil},
		{[]api.Rule{}, nil},
		{rules("a : b c", "a d : c e"), rules("a : b c e", "d : c e")},
		{rules("a :"), rules("a :")},
		{rules("b a : d c"), rules("a : d c", "b : d c")},
		{rules("a : b", "a : b"), rules("a : b")},
		{rules("a :", "a : b", "a :"), rules("a : b")},
		{rules("c :", "b :", "a :"), rules("a :", "b :", "c :")},
		{rules("b : x", "a : y", "b : z"), rules("a : y", "b : x z")},
		{rules("a : z y", "a : x z", "a : w y"), rules("a : z y x w")},
		// A target that is a need, also its own, stays one.
		{rules("a : a"), rules("a : a")},
		{rules("a b : b a", "b : c"), rules("a : b a", "b : b a c")},
		// A need is a target only if a rule makes it.
		{rules("a : b"), rules("a : b")},
		{rules("a10 :", "a9 :", "B :", "a. :", "a :"), rules("B :", "a :", "a. :", "a10 :", "a9 :")},
	} {
		if l, e := Join(c.l); !slices.EqualFunc(l, c.want, equal) || e != api.OK {
			t.Errorf("Join(%q) = %q, %d, want %q", shownAll(c.l), shownAll(l), e, shownAll(c.want))
		}
	}
}

func TestJoinOfAllShortLists(t *testing.T) {
	var all []api.Rule
	for _, targets := range arrangements(words("b c"))[1:] {
		for _, needs := range arrangements(words("a b c")) {
			all = append(all, api.Rule{Targets: targets, Needs: needs})
		}
	}
	compare := func(l ...api.Rule) {
		want := joinByDefinition(l)
		if joined, e := Join(l); !slices.EqualFunc(joined, want, equal) || e != api.OK {
			t.Fatalf("Join(%q) = %q, %d, want %q", shownAll(l), shownAll(joined), e, shownAll(want))
		}
	}
	for _, a := range all {
		compare(a)
		for _, b := range all {
			compare(a, b)
			for _, c := range all {
				compare(a, b, c)
			}
		}
	}
}

func TestJoinOfJoinedRules(t *testing.T) {
	l := rules("c a : x y", "b : z", "a b : y w", "c : a")
	joined, e := Join(l)
	if e != api.OK {
		t.Fatal(e)
	}
	if again, e := Join(joined); !slices.EqualFunc(again, joined, equal) || e != api.OK {
		t.Errorf("Join(%q) = %q, %d", shownAll(joined), shownAll(again), e)
	}
}

func TestJoinUpToTheNumberOfRules(t *testing.T) {
	for _, n := range []int{99, 100, 101, 102, 1000} {
		joined, e := Join(slices.Repeat(rules("a : b"), n))
		if n <= 100 && (!slices.EqualFunc(joined, rules("a : b"), equal) || e != api.OK) {
			t.Errorf("Join of %d rules = %q, %d", n, shownAll(joined), e)
		}
		if n > 100 && (len(joined) != 0 || e != api.ErrLarge) {
			t.Errorf("Join of %d rules = %q, %d, want ErrLarge", n, shownAll(joined), e)
		}
	}
}

// chunked returns rules with the strings of l, 10 at a time: as targets, or as needs of the target.
func chunked(l []string, target string) []api.Rule {
	var all []api.Rule
	for part := range slices.Chunk(l, 10) {
		if target == "" {
			all = append(all, api.Rule{Targets: part, Needs: []string{"n"}})
		} else {
			all = append(all, api.Rule{Targets: []string{target}, Needs: part})
		}
	}
	return all
}

func TestJoinUpToTheNumberOfNames(t *testing.T) {
	for _, n := range []int{20, 21, 63, 64, 65, 66, 100, 500} {
		names := numbered("x", n)
		for _, target := range []string{"", "t"} {
			// Repetitions do not count, and it does not matter where in the list the rules are.
			l := slices.Concat(rules("a : b"), chunked(names, target), chunked(names[:n/2], target), rules("z : y"))
			if target == "" {
				l = slices.Concat(chunked(names, ""), chunked(names[:n/2], ""))
			}
			joined, e := Join(l)
			if n <= 64 && (!slices.EqualFunc(joined, joinByDefinition(l), equal) || e != api.OK) {
				t.Errorf("Join of %d names = %q, %d", n, shownAll(joined), e)
			}
			if n > 64 && (len(joined) != 0 || e != api.ErrLarge) {
				t.Errorf("Join of %d names = %q, %d, want ErrLarge", n, shownAll(joined), e)
			}
		}
	}
}

func TestJoinOfManyTargetsWithManyNeeds(t *testing.T) {
	// The limits are for the targets and for the needs of one rule, not for all names together.
	var l []api.Rule
	targets := numbered("t", 64)
	for i, part := range slices.Collect(slices.Chunk(targets, 16)) {
		for needs := range slices.Chunk(numbered("n"+strconv.Itoa(i)+".", 64), 16) {
			l = append(l, api.Rule{Targets: part, Needs: needs})
		}
	}
	joined, e := Join(l)
	if !slices.EqualFunc(joined, joinByDefinition(l), equal) || len(joined) != 64 || e != api.OK {
		t.Errorf("Join = %q, %d", shownAll(joined), e)
	}
	for _, r := range joined {
		if len(r.Needs) != 64 {
			t.Errorf("%q has %d needs", r.Targets, len(r.Needs))
		}
	}
	for _, last := range targets {
		if joined, e := Join(append(slices.Clone(l), of(last, "extra"))); len(joined) != 0 || e != api.ErrLarge {
			t.Errorf("Join with 65 needs of %q has %d rules, error %d, want ErrLarge", last, len(joined), e)
		}
	}
}

func TestJoinOfTheLargestLists(t *testing.T) {
	var l []api.Rule
	for i := range 100 {
		l = append(l, api.Rule{Targets: numbered("t", 20), Needs: numbered("n"+strconv.Itoa(i)+".", 20)})
	}
	if joined, e := Join(l); len(joined) != 0 || e != api.ErrLarge {
		t.Errorf("Join has %d rules, error %d, want ErrLarge", len(joined), e)
	}
	l = nil
	for i := range 100 {
		l = append(l, api.Rule{Targets: numbered("t"+strconv.Itoa(i)+".", 20), Needs: numbered("n", 20)})
	}
	if joined, e := Join(l); len(joined) != 0 || e != api.ErrLarge {
		t.Errorf("Join has %d rules, error %d, want ErrLarge", len(joined), e)
	}
}

func TestTheErrorsOfJoin(t *testing.T) {
	large, form, there := api.Rule{Targets: numbered("x", 21)}, of("", "a"), of("a a", "b")
	for _, c := range []struct {
		l    []api.Rule
		want api.Errno
	}{
		{[]api.Rule{{}}, api.ErrForm},
		{append(rules("a : b"), form), api.ErrForm},
		{append([]api.Rule{form}, rules("a : b")...), api.ErrForm},
		{append(rules("a : b"), there), api.ErrThere},
		{append(rules("a : b"), large), api.ErrLarge},
		{append(rules("a : b"), of("c", "d d")), api.ErrThere},
		{append(rules("a : b"), of("c", "$")), api.ErrForm},
		// The first rule with an error decides.
		{[]api.Rule{large, form, there}, api.ErrLarge},
		{[]api.Rule{form, there, large}, api.ErrForm},
		{[]api.Rule{there, large, form}, api.ErrThere},
		{[]api.Rule{there, form, large}, api.ErrThere},
		{append(rules("a : b"), form, large), api.ErrForm},
		// Too many rules come before that, and too many names after it.
		{make([]api.Rule, 101), api.ErrLarge},
		{slices.Repeat([]api.Rule{there}, 101), api.ErrLarge},
		{slices.Repeat([]api.Rule{there}, 100), api.ErrThere},
		{append(slices.Repeat(rules("a : b"), 100), form), api.ErrLarge},
		{append(slices.Repeat(rules("a : b"), 99), form), api.ErrForm},
		{append(chunked(numbered("x", 70), ""), form), api.ErrForm},
		{append(chunked(numbered("x", 70), ""), there), api.ErrThere},
		{append(chunked(numbered("x", 70), "t"), form), api.ErrForm},
		{append(chunked(numbered("x", 70), "t"), there), api.ErrThere},
	} {
		if joined, e := Join(c.l); len(joined) != 0 || e != c.want {
			t.Errorf("Join(%q) = %q, %d, want %d", shownAll(c.l), shownAll(joined), e, c.want)
		}
	}
}

func TestArgumentsAreNotModified(t *testing.T) {
	targets, needs := words("c a b beyond"), words("z x y beyond")
	all := []api.Rule{{Targets: targets[:3], Needs: needs[:3]}, {Targets: targets[1:3], Needs: needs[:0]}, of("beyond", "")}
	l := all[:2]
	Check(l[0])
	if _, e := Print(l[0]); e != api.OK {
		t.Error(e)
	}
	if _, e := Join(l); e != api.OK {
		t.Error(e)
	}
	if !slices.Equal(targets, words("c a b beyond")) || !slices.Equal(needs, words("z x y beyond")) {
		t.Errorf("the targets are %q and the needs %q", targets, needs)
	}
	if want := rules("c a b : z x y", "a b :", "beyond :"); !slices.EqualFunc(all, want, equal) {
		t.Errorf("the rules are %q", shownAll(all))
	}
}

// overwrite changes all memory of the slice, also beyond its length.
func overwrite(l []string) {
	for i := range l[:cap(l)] {
		l[:cap(l)][i] = "overwritten"
	}
}

func TestResultsOfJoinAreNewMemory(t *testing.T) {
	lines := []string{"a b c : x y z", "d : x", "c d : w", "e f :", "g : v"}
	want := rules("a : x y z", "b : x y z", "c : x y z w", "d : x w", "e :", "f :", "g : v")
	l := rules(lines...)
	joined, e := Join(l)
	if !slices.EqualFunc(joined, want, equal) || e != api.OK {
		t.Fatalf("Join = %q, %d", shownAll(joined), e)
	}
	for i := range joined {
		for _, part := range []*[]string{&joined[i].Targets, &joined[i].Needs} {
			overwrite(*part)
			*part = nil
			if !slices.EqualFunc(joined[i+1:], want[i+1:], equal) || len(joined[i].Needs) > 0 && !slices.Equal(joined[i].Needs, want[i].Needs) {
				t.Fatalf("a part of rule %d is shared: %q", i, shownAll(joined))
			}
		}
	}
	if !slices.EqualFunc(l, rules(lines...), equal) {
		t.Errorf("Join returned a part of its argument: %q", shownAll(l))
	}
	joined, _ = Join(l)
	for i := len(joined) - 1; i >= 0; i-- {
		overwrite(joined[i].Needs)
		overwrite(joined[i].Targets)
		if !slices.EqualFunc(joined[:i], want[:i], equal) {
			t.Fatalf("a part of rule %d is shared: %q", i, shownAll(joined))
		}
	}
	joined, _ = Join(l)
	for _, r := range l {
		overwrite(r.Targets)
		overwrite(r.Needs)
	}
	if !slices.EqualFunc(joined, want, equal) {
		t.Errorf("Join kept its argument: %q", shownAll(joined))
	}
}

func TestResultsOfParseAreNewMemory(t *testing.T) {
	const s = "a b : c d"
	first, _ := Parse(s)
	overwrite(first.Targets)
	if !slices.Equal(first.Needs, words("c d")) {
		t.Errorf("the targets and the needs %q share memory", first.Needs)
	}
	first, _ = Parse(s)
	overwrite(first.Needs)
	if !slices.Equal(first.Targets, words("a b")) {
		t.Errorf("the needs and the targets %q share memory", first.Targets)
	}
	if second, e := Parse(s); !equal(second, of("a b", "c d")) || e != api.OK {
		t.Errorf("Parse kept its result: %q, %d", shown(second), e)
	}
}
