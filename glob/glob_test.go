package glob

import (
	"slices"
	"strings"
	"testing"

	"millwright/api"
)

// letters are the bytes of the patterns that are enumerated: every special byte, and two others.
const letters = `*?[]\!-ab`

// part is an element as the document describes it: its text and the bytes that it matches.
type part struct {
	text    string
	star    bool
	matched func(c byte) bool
}

// items are what stands in brackets: the text and the bytes that it names.
type items struct {
	text  string
	names func(c byte) bool
}

// allStrings returns the strings of up to n bytes, each of them from the alphabet.
func allStrings(alphabet string, n int) []string {
	l := []string{""}
	for from := 0; n > 0; n-- {
		to := len(l)
		for _, s := range l[from:to] {
			for i := range len(alphabet) {
				l = append(l, s+alphabet[i:i+1])
			}
		}
		from = to
	}
	return l
}

// allItems returns every sequence of one or more items that has up to n bytes.
func allItems(n int) []items {
	const own = "*?ab"
	var single []items
	for i := range len(own) {
		first := own[i]
		single = append(single, items{string(first), func(c byte) bool { return c == first }})
		for k := range len(own) {
			if last := own[k]; first <= last {
				single = append(single, items{string(first) + "-" + string(last), func(c byte) bool { return first <= c && c <= last }})
			}
		}
	}
	var l []items
	for _, x := range single {
		if len(x.text) > n {
			continue
		}
		l = append(l, x)
		for _, y := range allItems(n - len(x.text)) {
			l = append(l, items{x.text + y.text, func(c byte) bool { return x.names(c) || y.names(c) }})
		}
	}
	return l
}

// allParts returns every element that has up to n of the letters.
func allParts(n int) []part {
	l := []part{
		{"*", true, nil},
		{"?", false, func(byte) bool { return true }},
	}
	for i := range len(letters) {
		own := letters[i]
		same := func(c byte) bool { return c == own }
		if strings.IndexByte(`*?[]\`, own) < 0 {
			l = append(l, part{string(own), false, same})
		}
		l = append(l, part{`\` + string(own), false, same})
	}
	for _, x := range allItems(n - 2) {
		l = append(l, part{"[" + x.text + "]", false, x.names})
		l = append(l, part{"[!" + x.text + "]", false, func(c byte) bool { return !x.names(c) }})
	}
	return slices.DeleteFunc(l, func(x part) bool { return len(x.text) > n })
}

// allPatterns returns the elements of every pattern that has up to n of the letters.
func allPatterns(n int) [][]part {
	l := [][]part{nil}
	parts := allParts(n)
	for i := 0; i < len(l); i++ {
		length := len(textOf(l[i]))
		for _, x := range parts {
			if length+len(x.text) <= n {
				l = append(l, append(slices.Clone(l[i]), x))
			}
		}
	}
	return l
}

func textOf(l []part) string {
	text := ""
	for _, x := range l {
		text += x.text
	}
	return text
}

// matchByDefinition tries every way to divide s among the elements.
func matchByDefinition(l []part, s string) bool {
	if len(l) == 0 {
		return s == ""
	}
	if !l[0].star {
		return s != "" && l[0].matched(s[0]) && matchByDefinition(l[1:], s[1:])
	}
	for n := range len(s) + 1 {
		if matchByDefinition(l[1:], s[n:]) {
			return true
		}
	}
	return false
}

// invalidPatterns has strings that are not patterns, each for another reason.
var invalidPatterns = []string{
	"]", "a]", "]a", "*]", "[a]]", `\]]`, "[]]", "[!]]", "[a]b]",
	"[", "a[", "[a", "[!", "[!a", "[a-", "[a-c", "*[", "[a][", `\[[`, "[[", "[!a-c",
	"[]", "[!]", "a[]b", "[][a]",
	"[-]", "[--]", "[-a]", "[a-]", "[!-a]", "[!a-]", "[a--]", "[--a]", "[a-c-e]", "[a-c-]", "[a--c]", "[-a-c]",
	"[!!]", "[!!a]", "[a!]", "[a!b]", "[!a!]", "[a-!]", "[!-a]", "[!!-a]",
	"[[]", "[[a]", "[a[]", "[a[b]", "[A-[]", "[[-a]", "[[a]]", "[![]",
	`[\]`, `[\a]`, `[a\]`, `[a\]]`, `[\]]`, `[\\]`, `[\--a]`, `[!\]`, `[!\a]`, `[A-\]`, `[\-a]`, `[a-\b]`,
	"[A-]]", "[]-a]", "[]a]",
	"[c-a]", "[b-a]", "[!b-a]", "[xb-a]", "[a-cb-a]", "[z-a]", "[a-Z]", "[a-A]", "[9-0]", "[\xff-\x00]", "[\xff-\xfe]", "[\x80-\x7f]", "[\x01-\x00]",
	`\`, `a\`, `\\\`, `*\`, `[a]\`, `?\`, `\a\`,
}

// validPatterns has patterns with the special bytes in unusual places.
var validPatterns = []string{
	"", "a", "-", "!", "--", "a-c", "!a", "^", "[^a]", "{a,b}", "a b", " ", "\n", "\x00", "\xff", "\u00e9", "/", "#$",
	"*", "**", "?", "??", "*?*", "[*]", "[?]", "[*?]", "[!*]", "[^]", "[!^]", "[ ]", "[/]", "[\x00]", "[\xff]", "[\u00e9]",
	"[a-a]", "[a-z]", "[a-zA-Z0-9]", "[!a-z]", "[ab-cd]", "[*-?]", "[\x00-\xff]", "[\x7f-\x80]", "[ -~]", "[Z-^]", "[,-.]",
	`\]`, `\[`, `\\`, `\*`, `\?`, `\-`, `\!`, `\a`, "\\\x00", "\\\xff", `\\\\`, `\[a\]`, `[a]\]`,
	"[a][b]", "[a]*[!b]?", "a[b]c",
}

func TestCheckOfAllShortStrings(t *testing.T) {
	const n = 6
	patterns := map[string]bool{}
	for _, l := range allPatterns(n) {
		patterns[textOf(l)] = true
	}
	for _, p := range allStrings(letters, n) {
		want := api.ErrForm
		if patterns[p] {
			want = api.OK
		}
		if e := Check(p); e != want {
			t.Errorf("Check(%q) = %d, want %d", p, e, want)
		}
	}
}

func TestCheckOfPatterns(t *testing.T) {
	for _, p := range validPatterns {
		if e := Check(p); e != api.OK {
			t.Errorf("Check(%q) = %d", p, e)
		}
	}
}

func TestCheckOfInvalidPatterns(t *testing.T) {
	for _, p := range invalidPatterns {
		for _, before := range []string{"", "a", "*", "?", "[a-c]", `\\`} {
			if e := Check(before + p); e != api.ErrForm {
				t.Errorf("Check(%q) = %d, want ErrForm", before+p, e)
			}
		}
	}
}

func TestCheckOfEveryByte(t *testing.T) {
	for c := range 256 {
		b := string([]byte{byte(c)})
		inItems := !strings.Contains(`[]\-!`, b)
		for p, right := range map[string]bool{
			b:                      !strings.Contains(`[]\`, b),
			"a" + b:                !strings.Contains(`[]\`, b),
			`\` + b:                true,
			`a\` + b + "a":         true,
			"[" + b + "]":          inItems,
			"[!" + b + "]":         inItems,
			"[a" + b + "]":         inItems,
			"[" + b + "a]":         inItems || b == "!",
			"[" + b + "-\xff]":     inItems,
			"[\x00-" + b + "]":     inItems,
			"[\x00-\x01" + b + "]": inItems,
		} {
			want := api.ErrForm
			if right {
				want = api.OK
			}
			if e := Check(p); e != want {
				t.Errorf("Check(%q) = %d, want %d", p, e, want)
			}
		}
	}
}

func TestCheckOfEveryRange(t *testing.T) {
	const never = `[]\-!`
	for a := range 256 {
		if a == ']' {
			continue // It ends the brackets, and no range is left.
		}
		for b := range 256 {
			want := api.ErrForm
			if a <= b && strings.IndexByte(never, byte(a)) < 0 && strings.IndexByte(never, byte(b)) < 0 {
				want = api.OK
			}
			// The x keeps a ! from being the one that follows the bracket.
			p := "[x" + string([]byte{byte(a), '-', byte(b)}) + "]"
			if e := Check(p); e != want {
				t.Errorf("Check(%q) = %d, want %d", p, e, want)
			}
		}
	}
}

func TestCheckOfEveryLength(t *testing.T) {
	for n := range 200 {
		long := api.OK
		if n > 60 {
			long = api.ErrLarge
		}
		for _, c := range []string{"a", "*", "?", "-"} {
			if e := Check(strings.Repeat(c, n)); e != long {
				t.Errorf("Check of %d times %q = %d, want %d", n, c, e, long)
			}
		}
		// Too long comes before not a pattern.
		for _, end := range []string{"]", "[", `\`, "[b-a]"} {
			want := api.ErrForm
			if n+len(end) > 60 {
				want = api.ErrLarge
			}
			if e := Check(strings.Repeat("a", n) + end); e != want {
				t.Errorf("Check of %d bytes before %q = %d, want %d", n, end, e, want)
			}
		}
	}
	for _, p := range []string{"[" + strings.Repeat("a", 58) + "]", strings.Repeat(`\]`, 30), strings.Repeat("[a]", 20)} {
		if e := Check(p); len(p) != 60 || e != api.OK {
			t.Errorf("Check(%q) = %d", p, e)
		}
		if e := Check(p + "a"); e != api.ErrLarge {
			t.Errorf("Check(%q) = %d, want ErrLarge", p+"a", e)
		}
	}
}

func TestMatchOfAllShortPatterns(t *testing.T) {
	texts := allStrings(`ab*]\`, 2)
	for _, l := range allPatterns(5) {
		p := textOf(l)
		for _, s := range texts {
			want := matchByDefinition(l, s)
			if ok, e := Match(p, s); ok != want || e != api.OK {
				t.Fatalf("Match(%q, %q) = %v, %d, want %v", p, s, ok, e, want)
			}
		}
	}
}

// TestMatchOfStars goes further where an element has several places to match.
func TestMatchOfStars(t *testing.T) {
	parts := map[byte]part{}
	for _, x := range allParts(1) {
		parts[x.text[0]] = x
	}
	texts := allStrings("ab", 6)
	for _, p := range allStrings("*?ab", 5) {
		var l []part
		for i := range len(p) {
			l = append(l, parts[p[i]])
		}
		for _, s := range texts {
			want := matchByDefinition(l, s)
			if ok, e := Match(p, s); ok != want || e != api.OK {
				t.Fatalf("Match(%q, %q) = %v, %d, want %v", p, s, ok, e, want)
			}
		}
	}
}

func TestMatchOfNames(t *testing.T) {
	for _, c := range []struct {
		p, s string
		want bool
	}{
		{"[a-c]*.o", "b1.o", true},
		{"[a-c]*.o", "d.o", false},
		{"[a-c]*.o", "a.o", true},
		{"[a-c]*.o", "a.o.c", false},
		{"[!a]*", "b", true},
		{"[!a]*", "ba", true},
		{"[!a]*", "ab", false},
		{"[!a]*", "", false},
		{"*.c", ".c", true},
		{"*.c", "src/.c", true},
		{"*/*", "a/b/c", true},
		{"a?c", "a/c", true},
		{"a?c", "a\nc", true},
		{"?", "\u00e9", false},
		{"??", "\u00e9", true},
		{"[!a]", "\u00e9", false},
		{"A", "a", false},
		{"[A-Z]", "a", false},
		{"[^a]", "a", true},
		{"[^a]", "^", true},
		{"[^a]", "b", false},
		{"a-c", "b", false},
		{"a-c", "a-c", true},
		{"!a", "!a", true},
		{"!a", "b", false},
		{"[Z-^]", "[", true},
		{"[Z-^]", "]", true},
		{"[Z-^]", `\`, true},
		{"[!Z-^]", "[", false},
		{"[ -~]", "-", true},
		{"[ -~]", "!", true},
		{"[a-a]", "a", true},
		{"[aa-ca]", "b", true},
		{"[ac-e]", "b", false},
		{"[a-ce]", "d", false},
		{`\a`, "a", true},
		{`\a`, `\a`, false},
		{`\?`, "a", false},
		{`\[a\]`, "[a]", true},
		{`*\*`, "ab*", true},
		{`*\*`, "ab", false},
		{"lib/*.[ch]", "lib/x.h", true},
		{"lib/*.[ch]", "lib/x.o", false},
	} {
		if ok, e := Match(c.p, c.s); ok != c.want || e != api.OK {
			t.Errorf("Match(%q, %q) = %v, %d, want %v", c.p, c.s, ok, e, c.want)
		}
	}
}

func TestMatchOfEveryByte(t *testing.T) {
	for c := range 256 {
		s := string([]byte{byte(c)})
		for _, x := range []struct {
			p    string
			want bool
		}{
			{"*", true},
			{"?", true},
			{`\` + s, true},
			{"[\x00-\xff]", true},
			{"[!\x00-\xff]", false},
			{"[\xff]", c == 255},
			{"[!\xff]", c != 255},
			{"[\x00]", c == 0},
			{"[\xf0-\xff]", c >= 0xf0},
			{"[\x00-\x10]", c <= 0x10},
			{"[!\x7f-\x80]", c != 0x7f && c != 0x80},
			{"[a-cx0-9]", c >= 'a' && c <= 'c' || c == 'x' || c >= '0' && c <= '9'},
			{"[!a-cx0-9]", !(c >= 'a' && c <= 'c' || c == 'x' || c >= '0' && c <= '9')},
			{"a", c == 'a'},
			{"\x00", c == 0},
			{"\xff", c == 255},
			{"", false},
			{"??", false},
			{"?*", true},
		} {
			if ok, e := Match(x.p, s); ok != x.want || e != api.OK {
				t.Errorf("Match(%q, %q) = %v, %d, want %v", x.p, s, ok, e, x.want)
			}
		}
	}
}

func TestMatchOfLongTexts(t *testing.T) {
	long := strings.Repeat("a", 2000)
	for _, c := range []struct {
		p, s string
		want bool
	}{
		{"*", long, true},
		{"?*", long, true},
		{"*b", long, false},
		{"*b", long[1:] + "b", true},
		{strings.Repeat("*", 60), long, true},
		{strings.Repeat("*", 59) + "b", long, false},
		{strings.Repeat("*a", 30), long, true},
		{strings.Repeat("a*", 30), long, true},
		{strings.Repeat("a*", 29) + "b", long, false},
		{strings.Repeat("*a", 29) + "b", long, false},
		{strings.Repeat("*?", 29) + "*b", long, false},
		{"*" + strings.Repeat("a", 58) + "b", long, false},
		{"*" + strings.Repeat("?", 58) + "b", long[1:] + "b", true},
		{strings.Repeat("?", 60), long[:60], true},
		{strings.Repeat("?", 60), long[:61], false},
		{strings.Repeat("?", 60), long[:59], false},
		{"a", long, false},
		{"", long, false},
	} {
		if ok, e := Match(c.p, c.s); ok != c.want || e != api.OK {
			t.Errorf("Match(%q, %d bytes) = %v, %d, want %v", c.p, len(c.s), ok, e, c.want)
		}
	}
}

func TestMatchUpToTheLimit(t *testing.T) {
	for _, n := range []int{1999, 2000, 2001, 2002, 100000} {
		for _, p := range []string{"*", "a*", "b", "", strings.Repeat("*a", 30)} {
			want := api.OK
			if n > 2000 {
				want = api.ErrLarge
			}
			ok, e := Match(p, strings.Repeat("a", n))
			if e != want || ok && n > 2000 {
				t.Errorf("Match(%q, %d bytes) = %v, %d, want error %d", p, n, ok, e, want)
			}
		}
	}
}

func TestMatchOfInvalidPatterns(t *testing.T) {
	// The error of Check comes before that of a long text.
	texts := []string{"", "a", "b", strings.Repeat("a", 2000), strings.Repeat("a", 2001)}
	for _, s := range texts {
		for _, p := range invalidPatterns {
			if ok, e := Match(p, s); ok || e != api.ErrForm {
				t.Errorf("Match(%q, %d bytes) = %v, %d, want ErrForm", p, len(s), ok, e)
			}
		}
		for _, p := range []string{strings.Repeat("*", 61), strings.Repeat("]", 61), strings.Repeat("*", 5000)} {
			if ok, e := Match(p, s); ok || e != api.ErrLarge {
				t.Errorf("Match(%d bytes, %d bytes) = %v, %d, want ErrLarge", len(p), len(s), ok, e)
			}
		}
	}
	if ok, e := Match("*b]", "a"); ok || e != api.ErrForm {
		t.Errorf("a text that does not match hides the end of the pattern: %v, %d", ok, e)
	}
}

func TestQuote(t *testing.T) {
	for _, c := range [][2]string{
		{"", ""},
		{"lib/x.o", "lib/x.o"},
		{"a-c!", "a-c!"},
		{"*", `\*`},
		{"?", `\?`},
		{"[", `\[`},
		{"]", `\]`},
		{`\`, `\\`},
		{`\*`, `\\\*`},
		{"[!a]*", `\[!a\]\*`},
		{"\x00\xff", "\x00\xff"},
		{"\u00e9", "\u00e9"},
	} {
		if q, e := Quote(c[0]); q != c[1] || e != api.OK {
			t.Errorf("Quote(%q) = %q, %d, want %q", c[0], q, e, c[1])
		}
	}
}

func TestQuoteOfEveryByte(t *testing.T) {
	for c := range 256 {
		s := "x" + string([]byte{byte(c)}) + "y"
		want := s
		if strings.IndexByte(`*?[]\`, byte(c)) >= 0 {
			want = `x\` + s[1:]
		}
		if q, e := Quote(s); q != want || e != api.OK {
			t.Errorf("Quote(%q) = %q, %d, want %q", s, q, e, want)
		}
	}
}

func TestQuoteMatchesOnlyItsText(t *testing.T) {
	texts := allStrings(letters, 3)
	for _, s := range texts {
		q, e := Quote(s)
		if e != api.OK || Check(q) != api.OK {
			t.Fatalf("Quote(%q) = %q, %d", s, q, e)
		}
		if back, ok := Plain(q); back != s || !ok {
			t.Errorf("Plain(Quote(%q)) = %q, %v", s, back, ok)
		}
		picked, e := Pick(q, texts)
		if !slices.Equal(picked, []string{s}) || e != api.OK {
			t.Errorf("Quote(%q) matches %q", s, picked)
		}
	}
}

func TestQuoteUpToTheLimit(t *testing.T) {
	for n := range 130 {
		for _, c := range []struct {
			s    string
			each int
		}{{"a", 1}, {"*", 2}, {`\`, 2}, {"]", 2}, {"-", 1}} {
			for _, before := range []string{"", "b"} {
				s := before + strings.Repeat(c.s, n)
				q, e := Quote(s)
				length := len(before) + n*c.each
				if length <= 60 && (len(q) != length || e != api.OK) {
					t.Errorf("Quote(%q) = %q, %d", s, q, e)
				}
				if length > 60 && (q != "" || e != api.ErrLarge) {
					t.Errorf("Quote(%q) = %q, %d, want ErrLarge", s, q, e)
				}
			}
		}
	}
}

func TestPlain(t *testing.T) {
	for _, c := range []struct {
		p, want string
		ok      bool
	}{
		{"", "", true},
		{"lib/x.o", "lib/x.o", true},
		{`\*a`, "*a", true},
		{`\a`, "a", true},
		{`\\`, `\`, true},
		{`\\\\`, `\\`, true},
		{`\[a\]`, "[a]", true},
		{"a-c!", "a-c!", true},
		{"\x00\\\xff", "\x00\xff", true},
		{"*", "", false},
		{"a*", "", false},
		{"a?", "", false},
		{"?a", "", false},
		{"[a]", "", false},
		{"a[a]", "", false},
		{"[a-a]b", "", false},
		{"[*]", "", false},
		{`\\*`, "", false},
		{`\**`, "", false},
	} {
		if s, ok := Plain(c.p); s != c.want || ok != c.ok {
			t.Errorf("Plain(%q) = %q, %v, want %q, %v", c.p, s, ok, c.want, c.ok)
		}
	}
	for _, p := range invalidPatterns {
		if s, ok := Plain("ab" + p); s != "" || ok {
			t.Errorf("Plain(%q) = %q, %v", "ab"+p, s, ok)
		}
	}
}

func TestPlainOfAllShortPatterns(t *testing.T) {
	for _, l := range allPatterns(5) {
		want, plain := "", true
		for _, x := range l {
			if strings.IndexByte("*?[", x.text[0]) >= 0 {
				plain = false
			}
			want += x.text[len(x.text)-1:]
		}
		if !plain {
			want = ""
		}
		if s, ok := Plain(textOf(l)); s != want || ok != plain {
			t.Errorf("Plain(%q) = %q, %v, want %q, %v", textOf(l), s, ok, want, plain)
		}
	}
}

// TestPlainOfLongPatterns: the limit on the length is Check's, and not a part of what a pattern is.
func TestPlainOfLongPatterns(t *testing.T) {
	for _, n := range []int{60, 61, 5000} {
		a := strings.Repeat("a", n)
		for _, c := range []struct {
			p, want string
			ok      bool
		}{
			{a, a, true},
			{strings.Repeat(`\a`, n), a, true},
			{a + "*", "", false},
			{a + "]", "", false},
			{a + `\`, "", false},
		} {
			if s, ok := Plain(c.p); s != c.want || ok != c.ok {
				t.Errorf("Plain of %d bytes = %d bytes, %v", len(c.p), len(s), ok)
			}
		}
	}
}

func TestPick(t *testing.T) {
	fits, long := strings.Repeat("a", 2000), strings.Repeat("a", 2001)
	for _, c := range []struct {
		p       string
		l, want []string
	}{
		{"*", nil, nil},
		{"*", []string{}, nil},
		{"*", []string{"b", "a", "", "b"}, []string{"b", "a", "", "b"}},
		{"a*", []string{"b", "ab", "a", "ab"}, []string{"ab", "a", "ab"}},
		{"", []string{"a", "", "b", ""}, []string{"", ""}},
		{"[!a]", []string{"a", "b", "bb", "\xff"}, []string{"b", "\xff"}},
		{"*.o", []string{"x.c", "y.h"}, nil},
		{"*", []string{long, "b", fits, long, "c"}, []string{"b", fits, "c"}},
		{"*a*", []string{long}, nil},
		{"[a-c]*.o", []string{"d.o", "b1.o", "a.o", "c.c"}, []string{"b1.o", "a.o"}},
	} {
		if l, e := Pick(c.p, c.l); !slices.Equal(l, c.want) || e != api.OK {
			t.Errorf("Pick(%q, %d strings) has %d strings, error %d", c.p, len(c.l), len(l), e)
		}
	}
}

func TestPickAgreesWithMatch(t *testing.T) {
	texts := allStrings("ab*]", 3)
	for _, l := range allPatterns(4) {
		p := textOf(l)
		var want []string
		for _, s := range texts {
			if ok, _ := Match(p, s); ok {
				want = append(want, s)
			}
		}
		if picked, e := Pick(p, texts); !slices.Equal(picked, want) || e != api.OK {
			t.Fatalf("Pick(%q) = %q, %d, want %q", p, picked, e, want)
		}
	}
}

func TestPickOfInvalidPatterns(t *testing.T) {
	for _, l := range [][]string{nil, {"a"}, {"b", strings.Repeat("a", 2001)}} {
		for _, p := range invalidPatterns {
			if picked, e := Pick(p, l); len(picked) != 0 || e != api.ErrForm {
				t.Errorf("Pick(%q) = %q, %d, want ErrForm", p, picked, e)
			}
		}
		for _, p := range []string{strings.Repeat("*", 61), strings.Repeat("]", 61)} {
			if picked, e := Pick(p, l); len(picked) != 0 || e != api.ErrLarge {
				t.Errorf("Pick(%q) = %q, %d, want ErrLarge", p, picked, e)
			}
		}
	}
}

func TestPickLeavesItsArgument(t *testing.T) {
	words := []string{"b", "ab", "a", "c", "ad", "e"}
	whole := slices.Clone(words)
	for n := range len(words) + 1 {
		for _, p := range []string{"*", "a*", "[!a]", "x", "]"} {
			first, _ := Pick(p, whole[:n])
			second, _ := Pick(p, whole[:n])
			want := slices.Clone(second)
			for i := range first[:cap(first)] {
				first[:cap(first)][i] = "overwritten"
			}
			if !slices.Equal(whole, words) {
				t.Fatalf("Pick(%q, %d strings) changed its list, or shares memory with it: %q", p, n, whole)
			}
			if !slices.Equal(second, want) {
				t.Errorf("two results of Pick(%q) share memory", p)
			}
		}
	}
}
