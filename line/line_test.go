package line

import (
	"math"
	"slices"
	"strings"
	"testing"

	"millwright/api"
)

// letters are the bytes of the inputs that are enumerated: every byte with a meaning, and another one.
const letters = "a \t\\#\n"

// allStrings returns the strings of up to n bytes, each of them from the alphabet.
func allStrings(alphabet string, n int) []string {
	l := []string{""}
	for from := 0; n > 0; n-- {
		to := len(l)
		for _, s := range l[from:to] {
			for i := range len(alphabet) {
				l = append(l, s+alphabet[i:i+1])
			}
		}
		from = to
	}
	return l
}

func isBlank(c byte) bool { return c == ' ' || c == '\t' }

// joinByDefinition follows the document byte by byte, for inputs without invalid bytes.
func joinByDefinition(s string) []api.Line {
	var l []api.Line
	number := 0
	for s != "" {
		number++
		at, text := number, ""
		for {
			var physical string
			physical, s = firstPhysical(s)
			if number > at {
				for physical != "" && isBlank(physical[0]) {
					physical = physical[1:]
				}
				text += " "
			}
			if physical == "" || physical[len(physical)-1] != '\\' {
				text += physical
				break
			}
			text += physical[:len(physical)-1]
			if s == "" {
				break
			}
			number++
		}
		if text = textByDefinition(text); text != "" {
			l = append(l, api.Line{At: at, Text: text})
		}
	}
	return l
}

// firstPhysical returns the first physical line of s, and what comes after its newline.
func firstPhysical(s string) (string, string) {
	for i := range len(s) {
		if s[i] == '\n' {
			return s[:i], s[i+1:]
		}
	}
	return s, ""
}

// textByDefinition returns what is left of a joined line.
func textByDefinition(joined string) string {
	var text []byte
	for i := range len(joined) {
		if joined[i] != '#' {
			text = append(text, joined[i])
			continue
		}
		if i == 0 || joined[i-1] != '\\' {
			break
		}
		text[len(text)-1] = '#'
	}
	for len(text) > 0 && isBlank(text[len(text)-1]) {
		text = text[:len(text)-1]
	}
	return string(text)
}

// joinCase is an input, and the lines that Join returns for it.
type joinCase struct {
	s    string
	want []api.Line
}

func checkJoin(t *testing.T, cases []joinCase) {
	t.Helper()
	for _, c := range cases {
		if l, e := Join(c.s); !slices.Equal(l, c.want) || e != api.OK {
			t.Errorf("Join(%q) = %#v, %d, want %#v", c.s, l, e, c.want)
		}
	}
}

func TestJoinNumbersPhysicalLines(t *testing.T) {
	checkJoin(t, []joinCase{
		{"", nil},
		{"\n", nil},
		{"\n\n\n", nil},
		{"a", []api.Line{{At: 1, Text: "a"}}},
		{"a\n", []api.Line{{At: 1, Text: "a"}}},
		{"a\n\n", []api.Line{{At: 1, Text: "a"}}},
		{"\na", []api.Line{{At: 2, Text: "a"}}},
		{"a\nb\nc", []api.Line{{At: 1, Text: "a"}, {At: 2, Text: "b"}, {At: 3, Text: "c"}}},
		{"\n\na\n\n\nb\n", []api.Line{{At: 3, Text: "a"}, {At: 6, Text: "b"}}},
	})
}

func TestJoinOfBlanks(t *testing.T) {
	checkJoin(t, []joinCase{
		{" ", nil},
		{" \t\n\t ", nil},
		{" a", []api.Line{{At: 1, Text: " a"}}},
		{"\ta\n \tb", []api.Line{{At: 1, Text: "\ta"}, {At: 2, Text: " \tb"}}},
		{"a \t \n b\t", []api.Line{{At: 1, Text: "a"}, {At: 2, Text: " b"}}},
		{"a  b\t\tc", []api.Line{{At: 1, Text: "a  b\t\tc"}}},
	})
}

func TestJoinOfContinuedLines(t *testing.T) {
	checkJoin(t, []joinCase{
		{"a\\\nb", []api.Line{{At: 1, Text: "a b"}}},
		{"a \\\nb", []api.Line{{At: 1, Text: "a  b"}}},
		{"a\\\n \t \tb", []api.Line{{At: 1, Text: "a b"}}},
		{" \ta\\\n\tb\\\n c\nd", []api.Line{{At: 1, Text: " \ta b c"}, {At: 4, Text: "d"}}},
		{"a\\\n\nb", []api.Line{{At: 1, Text: "a"}, {At: 3, Text: "b"}}},
		{"a\\\n \t\nb", []api.Line{{At: 1, Text: "a"}, {At: 3, Text: "b"}}},
		{"a\\\n\\\nb", []api.Line{{At: 1, Text: "a  b"}}},
		{"a\\\n  \\\n  b", []api.Line{{At: 1, Text: "a  b"}}},
		{"\\\na", []api.Line{{At: 1, Text: " a"}}},
		{" \\\n a", []api.Line{{At: 1, Text: "  a"}}},
		{"\\\n\\\n\n\na", []api.Line{{At: 5, Text: "a"}}},
		{"a\\\\\nb", []api.Line{{At: 1, Text: "a\\ b"}}},
		{"a\\\\\\\nb", []api.Line{{At: 1, Text: "a\\\\ b"}}},
		{"a\\\n\\\\\nb", []api.Line{{At: 1, Text: "a \\ b"}}},
		{"a\\ \nb", []api.Line{{At: 1, Text: "a\\"}, {At: 2, Text: "b"}}},
		{"a\\\t\nb", []api.Line{{At: 1, Text: "a\\"}, {At: 2, Text: "b"}}},
		{"a\\b", []api.Line{{At: 1, Text: "a\\b"}}},
	})
}

func TestJoinOfALastBackslash(t *testing.T) {
	checkJoin(t, []joinCase{
		{"\\", nil},
		{"\\\n", nil},
		{" \\", nil},
		{"a\\", []api.Line{{At: 1, Text: "a"}}},
		{"a\\\n", []api.Line{{At: 1, Text: "a"}}},
		{"a \\\n", []api.Line{{At: 1, Text: "a"}}},
		{"a\\\\", []api.Line{{At: 1, Text: "a\\"}}},
		{"a\\\\\n", []api.Line{{At: 1, Text: "a\\"}}},
		{"a\\\nb\\", []api.Line{{At: 1, Text: "a b"}}},
		{"a\\\n\\", []api.Line{{At: 1, Text: "a"}}},
		{"a\\\n\\\\", []api.Line{{At: 1, Text: "a \\"}}},
		{"a\\\n\n", []api.Line{{At: 1, Text: "a"}}},
		{"b\n\\\n", []api.Line{{At: 1, Text: "b"}}},
	})
}

func TestJoinOfComments(t *testing.T) {
	checkJoin(t, []joinCase{
		{"#", nil},
		{"# a", nil},
		{" \t# a", nil},
		{"a#b", []api.Line{{At: 1, Text: "a"}}},
		{"a \t # b # c", []api.Line{{At: 1, Text: "a"}}},
		{"a##b", []api.Line{{At: 1, Text: "a"}}},
		{"# a\nb # c\n#\nd", []api.Line{{At: 2, Text: "b"}, {At: 4, Text: "d"}}},
		{"a # b\\\nc\nd", []api.Line{{At: 1, Text: "a"}, {At: 3, Text: "d"}}},
		{"# a\\\n b\\\n c\nd", []api.Line{{At: 4, Text: "d"}}},
		{"a\\\n# b\\\nc\nd", []api.Line{{At: 1, Text: "a"}, {At: 4, Text: "d"}}},
		{"a\\\\\n# b", []api.Line{{At: 1, Text: "a\\"}}},
		{"a # b\\", []api.Line{{At: 1, Text: "a"}}},
		{"a\\ # b", []api.Line{{At: 1, Text: "a\\"}}},
		{"a # \\# b", []api.Line{{At: 1, Text: "a"}}},
	})
}

func TestJoinOfQuotedNumberSigns(t *testing.T) {
	checkJoin(t, []joinCase{
		{"\\#", []api.Line{{At: 1, Text: "#"}}},
		{"\\##", []api.Line{{At: 1, Text: "#"}}},
		{"\\#\\#", []api.Line{{At: 1, Text: "##"}}},
		{"\\\\#", []api.Line{{At: 1, Text: "\\#"}}},
		{"\\\\#\\#", []api.Line{{At: 1, Text: "\\##"}}},
		{"\\\\\\# #", []api.Line{{At: 1, Text: "\\\\#"}}},
		{"a \\# b # c", []api.Line{{At: 1, Text: "a # b"}}},
		{"a \\# b \\# c ", []api.Line{{At: 1, Text: "a # b # c"}}},
		{"a \\#\\\n b \\# c # d\ne", []api.Line{{At: 1, Text: "a # b # c"}, {At: 3, Text: "e"}}},
		{"a\\#\\", []api.Line{{At: 1, Text: "a#"}}},
		{"a\\# \\", []api.Line{{At: 1, Text: "a#"}}},
	})
}

func TestJoinOfTheExample(t *testing.T) {
	checkJoin(t, []joinCase{
		{"a \\\n  b # c\n\nd", []api.Line{{At: 1, Text: "a  b"}, {At: 4, Text: "d"}}},
	})
}

func TestJoinOfAllShortInputs(t *testing.T) {
	for _, s := range allStrings(letters, 7) {
		want := joinByDefinition(s)
		if l, e := Join(s); !slices.Equal(l, want) || e != api.OK {
			t.Fatalf("Join(%q) = %#v, %d, want %#v", s, l, e, want)
		}
	}
}

func TestJoinOfEveryByte(t *testing.T) {
	for c := range 256 {
		b := string([]byte{byte(c)})
		valid := c >= 32 && c <= 126 || c == 9 || c == 10
		// Comments, and lines that are left out, may not contain other bytes either.
		for _, s := range []string{b, "a" + b, b + "a", "a" + b + "a", "# " + b, "a\n\n# b\\\n" + b + "\n", "a\\" + b} {
			l, e := Join(s)
			if !valid && (len(l) != 0 || e != api.ErrForm) {
				t.Errorf("Join(%q) = %#v, %d, want ErrForm", s, l, e)
			}
			if want := joinByDefinition(s); valid && (!slices.Equal(l, want) || e != api.OK) {
				t.Errorf("Join(%q) = %#v, %d, want %#v", s, l, e, want)
			}
		}
	}
	if l, e := Join("\u00e9"); len(l) != 0 || e != api.ErrForm {
		t.Error(l, e)
	}
}

func TestJoinUpToTheLimit(t *testing.T) {
	for _, n := range []int{1, 19998, 19999, 20000, 20001, 20002, 100000} {
		for _, each := range []string{"a", " ", "#", "\\", "\n", "\r", "\xff"} {
			s := strings.Repeat(each, n)
			l, e := Join(s)
			switch {
			case n > 20000:
				// Too large comes before invalid bytes.
				if len(l) != 0 || e != api.ErrLarge {
					t.Errorf("Join of %d times %q: %d lines, %d, want ErrLarge", n, each, len(l), e)
				}
			case each == "\r" || each == "\xff":
				if len(l) != 0 || e != api.ErrForm {
					t.Errorf("Join of %d times %q: %d lines, %d, want ErrForm", n, each, len(l), e)
				}
			default:
				if e != api.OK || !slices.Equal(l, joinByDefinition(s)) {
					t.Errorf("Join of %d times %q: %d lines, %d", n, each, len(l), e)
				}
			}
		}
	}
}

func TestJoinOfManyLines(t *testing.T) {
	for _, n := range []int{5000, 10000} {
		l, e := Join(strings.Repeat("a\n", n))
		if len(l) != n || e != api.OK {
			t.Fatal(len(l), e)
		}
		for i, x := range l {
			if x != (api.Line{At: i + 1, Text: "a"}) {
				t.Fatal(i, x)
			}
		}
		l, e = Join(strings.Repeat("\\\n", n-1) + "a")
		if want := strings.Repeat(" ", n-1) + "a"; len(l) != 1 || l[0] != (api.Line{At: 1, Text: want}) || e != api.OK {
			t.Error(len(l), e)
		}
	}
}

func TestPrint(t *testing.T) {
	for _, c := range []struct {
		l    []api.Line
		want string
	}{
		{nil, ""},
		{[]api.Line{}, ""},
		{[]api.Line{{At: 1, Text: "a"}}, "a\n"},
		{[]api.Line{{At: 3, Text: "a"}}, "\n\na\n"},
		{[]api.Line{{At: 1, Text: "a"}, {At: 2, Text: "b"}, {At: 5, Text: "c"}}, "a\nb\n\n\nc\n"},
		{[]api.Line{{At: 2, Text: "\t a  b"}, {At: 3, Text: " c"}}, "\n\t a  b\n c\n"},
		{[]api.Line{{At: 1, Text: "#"}}, "\\#\n"},
		{[]api.Line{{At: 1, Text: "# a ## b"}, {At: 3, Text: "c#"}}, "\\# a \\#\\# b\n\nc\\#\n"},
		{[]api.Line{{At: 1, Text: "\\#"}}, "\\\\#\n"},
		{[]api.Line{{At: 1, Text: "\\\\#\\a"}}, "\\\\\\#\\a\n"},
		{[]api.Line{{At: 1, Text: "\\ a"}, {At: 2, Text: "b"}}, "\\ a\nb\n"},
		{[]api.Line{{At: 1, Text: " ~"}, {At: 2, Text: "!"}}, " ~\n!\n"},
	} {
		if s, e := Print(c.l); s != c.want || e != api.OK {
			t.Errorf("Print(%#v) = %q, %d, want %q", c.l, s, e, c.want)
		}
	}
}

func TestPrintOfAllShortTexts(t *testing.T) {
	for _, text := range allStrings(letters, 6) {
		// A text that Join can return has no newline, and no blank at its end.
		// It is lost as well if its last byte would continue the line.
		printable := text != "" && !strings.Contains(text, "\n") && strings.IndexByte(" \t\\", text[len(text)-1]) < 0
		l := []api.Line{{At: 1, Text: "x"}, {At: 4, Text: text}, {At: 5, Text: " y"}}
		s, e := Print(l)
		if !printable {
			if s != "" || e != api.ErrForm {
				t.Fatalf("Print(%#v) = %q, %d, want ErrForm", l, s, e)
			}
			continue
		}
		if want := "x\n\n\n" + strings.ReplaceAll(text, "#", "\\#") + "\n y\n"; s != want || e != api.OK {
			t.Fatalf("Print(%#v) = %q, %d, want %q", l, s, e, want)
		}
		if back, e := Join(s); !slices.Equal(back, l) || e != api.OK {
			t.Fatalf("Join(Print(%#v)) = %#v, %d", l, back, e)
		}
	}
}

func TestPrintIsTheInverseOfJoin(t *testing.T) {
	for _, s := range allStrings(letters, 6) {
		l, _ := Join(s)
		printed, e := Print(l)
		if slices.ContainsFunc(l, func(x api.Line) bool { return strings.HasSuffix(x.Text, "\\") }) {
			if printed != "" || e != api.ErrForm {
				t.Fatalf("Print(%#v) = %q, %d, want ErrForm", l, printed, e)
			}
			continue
		}
		if back, f := Join(printed); e != api.OK || f != api.OK || !slices.Equal(back, l) {
			t.Fatalf("Print(%#v) = %q, %d, read as %#v, %d", l, printed, e, back, f)
		}
	}
}

func TestPrintOfEveryByte(t *testing.T) {
	for c := range 256 {
		b := string([]byte{byte(c)})
		l := []api.Line{{At: 2, Text: "a" + b + "a"}}
		s, e := Print(l)
		switch {
		case c == '#':
			if s != "\na\\#a\n" || e != api.OK {
				t.Errorf("Print(%#v) = %q, %d", l, s, e)
			}
		case c >= 32 && c <= 126 || c == 9:
			if s != "\na"+b+"a\n" || e != api.OK {
				t.Errorf("Print(%#v) = %q, %d", l, s, e)
			}
		default:
			if s != "" || e != api.ErrForm {
				t.Errorf("Print(%#v) = %q, %d, want ErrForm", l, s, e)
			}
		}
	}
}

func TestPrintOfInvalidLines(t *testing.T) {
	long := strings.Repeat("a", 20001)
	for i, l := range [][]api.Line{
		{{At: 0, Text: "a"}},
		{{At: -1, Text: "a"}},
		{{At: math.MinInt, Text: "a"}},
		{{At: 1, Text: "a"}, {At: 1, Text: "b"}},
		{{At: 2, Text: "a"}, {At: 1, Text: "b"}},
		{{At: 1, Text: "a"}, {At: 3, Text: "b"}, {At: 2, Text: "c"}},
		{{At: 1, Text: "a"}, {At: 0, Text: "b"}},
		{{At: 1, Text: "a"}, {At: -5, Text: "b"}},
		{{At: math.MaxInt, Text: "a"}, {At: math.MinInt, Text: "b"}},
		{{At: math.MaxInt, Text: "a"}, {At: math.MaxInt, Text: "b"}},
		{{At: 1, Text: ""}},
		{{At: 1, Text: "a"}, {At: 2, Text: ""}},
		{{At: 1, Text: " "}},
		{{At: 1, Text: "a "}},
		{{At: 1, Text: "a\t"}},
		{{At: 1, Text: "# "}},
		{{At: 1, Text: "\\"}},
		{{At: 1, Text: "a\\"}},
		{{At: 1, Text: "a\\\\"}},
		{{At: 1, Text: "#\\"}},
		{{At: 1, Text: "\n"}},
		{{At: 1, Text: "a\n"}},
		{{At: 1, Text: "\na"}},
		{{At: 1, Text: "a\nb"}},
		{{At: 1, Text: "a\\\nb"}},
		{{At: 1, Text: "a\r"}},
		{{At: 1, Text: "\u00e9"}},
		// Join does not read texts of this size, quoted.
		{{At: 1, Text: long}},
		{{At: 1, Text: strings.Repeat("#", 10001)}},
		// An error of form comes before a large result, wherever it is.
		{{At: 30000, Text: "a"}, {At: 30001, Text: ""}},
		{{At: 30000, Text: "a"}, {At: 30000, Text: "b"}},
		{{At: 1, Text: long[:20000]}, {At: 2, Text: "b "}},
		{{At: math.MaxInt - 1, Text: "a"}, {At: math.MaxInt, Text: "a\\"}},
	} {
		if s, e := Print(l); s != "" || e != api.ErrForm {
			t.Errorf("Print of list %d = %d bytes, %d, want ErrForm", i, len(s), e)
		}
	}
}

func TestPrintUpToTheLimit(t *testing.T) {
	a := strings.Repeat("a", 20000)
	signs := strings.Repeat("#", 10000)
	for _, c := range []struct {
		l    []api.Line
		size int
	}{
		{[]api.Line{{At: 1, Text: a[:19999]}}, 20000},
		{[]api.Line{{At: 1, Text: a}}, 20001},
		{[]api.Line{{At: 2, Text: a[:19998]}}, 20000},
		{[]api.Line{{At: 2, Text: a[:19999]}}, 20001},
		{[]api.Line{{At: 1, Text: signs[:9999] + "a"}}, 20000},
		{[]api.Line{{At: 1, Text: signs}}, 20001},
		{[]api.Line{{At: 19999, Text: "a"}}, 20000},
		{[]api.Line{{At: 19998, Text: "#"}}, 20000},
		{[]api.Line{{At: 19999, Text: "#"}}, 20001},
		{[]api.Line{{At: 20000, Text: "a"}}, 20001},
		{[]api.Line{{At: 20001, Text: "a"}}, 20002},
		{[]api.Line{{At: 1, Text: a[:9999]}, {At: 2, Text: a[:9999]}}, 20000},
		{[]api.Line{{At: 1, Text: a[:9999]}, {At: 2, Text: a[:10000]}}, 20001},
		{[]api.Line{{At: 1, Text: a[:9999]}, {At: 3, Text: a[:9999]}}, 20001},
		{[]api.Line{{At: 1, Text: a}, {At: 2, Text: a}, {At: 3, Text: a}}, 60003},
		{[]api.Line{{At: math.MaxInt32, Text: "a"}}, math.MaxInt32},
		{[]api.Line{{At: math.MaxInt, Text: "a"}}, math.MaxInt},
		{[]api.Line{{At: math.MaxInt - 1, Text: a}, {At: math.MaxInt, Text: a}}, math.MaxInt},
		{[]api.Line{{At: 1, Text: "a"}, {At: math.MaxInt, Text: "b"}}, math.MaxInt},
	} {
		s, e := Print(c.l)
		if c.size > 20000 {
			if s != "" || e != api.ErrLarge {
				t.Errorf("Print of %d bytes = %d bytes, %d, want ErrLarge", c.size, len(s), e)
			}
			continue
		}
		if back, f := Join(s); len(s) != c.size || e != api.OK || f != api.OK || !slices.Equal(back, c.l) {
			t.Errorf("Print of %d bytes = %d bytes, %d", c.size, len(s), e)
		}
	}
}

func TestLinesShareNoMemory(t *testing.T) {
	lines := []api.Line{{At: 1, Text: "a"}, {At: 3, Text: " #b"}, {At: 4, Text: "c"}, {At: 9, Text: "d "}}
	whole := slices.Clone(lines)
	for n := range len(lines) + 1 {
		Print(whole[:n])
		if !slices.Equal(whole, lines) {
			t.Fatalf("Print of %d lines changed them: %#v", n, whole)
		}
	}
	first, _ := Join("a\nb\nc\n")
	second, _ := Join("a\nb\nc\n")
	want := slices.Clone(second)
	clear(first[:cap(first)])
	if !slices.Equal(second, want) {
		t.Error("two results of Join share memory")
	}
	words, more := Words("a b c"), Words("a b c")
	clear(words[:cap(words)])
	if !slices.Equal(more, []string{"a", "b", "c"}) {
		t.Error("two results of Words share memory")
	}
}

func TestWords(t *testing.T) {
	for _, c := range []struct {
		s    string
		want []string
	}{
		{"", nil},
		{" ", nil},
		{" \t \t", nil},
		{"a", []string{"a"}},
		{"a b", []string{"a", "b"}},
		{"\ta \t bc  ", []string{"a", "bc"}},
		{"b\ta\tb", []string{"b", "a", "b"}},
		{"a : b", []string{"a", ":", "b"}},
		{"# \\ \\# $(x)", []string{"#", "\\", "\\#", "$(x)"}},
		// Nothing but spaces and tabs separates words.
		{"a\nb\rc\vd\fe", []string{"a\nb\rc\vd\fe"}},
		{"\n \n", []string{"\n", "\n"}},
		{"a\u00a0b\u2003c\u0085d", []string{"a\u00a0b\u2003c\u0085d"}},
		{"\x00 \xff\t\x80", []string{"\x00", "\xff", "\x80"}},
		{"\xe2 \x80\t\xc3", []string{"\xe2", "\x80", "\xc3"}},
		{"\u0120 \u2009", []string{"\u0120", "\u2009"}},
		{"\ufffd \ufffd", []string{"\ufffd", "\ufffd"}},
		{strings.Repeat("a ", 3), []string{"a", "a", "a"}},
	} {
		if l := Words(c.s); !slices.Equal(l, c.want) {
			t.Errorf("Words(%q) = %q, want %q", c.s, l, c.want)
		}
	}
}

func TestWordsOfEveryByte(t *testing.T) {
	for c := range 256 {
		b := string([]byte{byte(c)})
		want := []string{"x" + b + "y", b}
		if isBlank(byte(c)) {
			want = []string{"x", "y"}
		}
		if l := Words("x" + b + "y " + b); !slices.Equal(l, want) {
			t.Errorf("Words with %q = %q", b, l)
		}
	}
}

func TestWordsOfAllShortStrings(t *testing.T) {
	for _, s := range allStrings("a \t\n\xe2", 6) {
		var want []string
		start := 0
		for i := range len(s) + 1 {
			if i < len(s) && !isBlank(s[i]) {
				continue
			}
			if start < i {
				want = append(want, s[start:i])
			}
			start = i + 1
		}
		if l := Words(s); !slices.Equal(l, want) {
			t.Fatalf("Words(%q) = %q, want %q", s, l, want)
		}
	}
}

func TestWordsOfLongStrings(t *testing.T) {
	const n = 100000
	if l := Words(strings.Repeat(" a", n)); len(l) != n {
		t.Error(len(l))
	}
	if l := Words(strings.Repeat("a", n)); len(l) != 1 || len(l[0]) != n {
		t.Error(len(l))
	}
}

func TestSplit(t *testing.T) {
	for _, c := range []struct {
		s             string
		at            byte
		before, after string
		ok            bool
	}{
		{"a=b", '=', "a", "b", true},
		{" a b\t= c = d ", '=', "a b", "c = d", true},
		{"a:b:c", ':', "a", "b:c", true},
		{"a::c", ':', "a", ":c", true},
		{"=", '=', "", "", true},
		{" \t= \t", '=', "", "", true},
		{"=a", '=', "", "a", true},
		{"a=", '=', "a", "", true},
		{"\t a\t \t=\t b \t", '=', "a", "b", true},
		{"\na\n=\rb\v", '=', "\na\n", "\rb\v", true},
		{"\u00a0a=b\u2003", '=', "\u00a0a", "b\u2003", true},
		// Without c, even the blanks stay.
		{"", '=', "", "", false},
		{"a", '=', "a", "", false},
		{" a \t", '=', " a \t", "", false},
		{" \t ", '=', " \t ", "", false},
		{"\x00\xff", '=', "\x00\xff", "", false},
		// Any byte can be c, also a blank and a part of a rune.
		{"a b c", ' ', "a", "b c", true},
		{" a b", ' ', "", "a b", true},
		{"\ta b\tc", '\t', "", "a b\tc", true},
		{"a\tb", ' ', "a\tb", "", false},
		{"a \t b", '\t', "a", "b", true},
		{"a\x00b", 0, "a", "b", true},
		{"a\xffb", 255, "a", "b", true},
		{"x\u00e9y", 0xa9, "x\xc3", "y", true},
		{"x\u00e9y", 0xe9, "x\u00e9y", "", false},
		{"a\nb", '\n', "a", "b", true},
	} {
		if a, b, ok := Split(c.s, c.at); a != c.before || b != c.after || ok != c.ok {
			t.Errorf("Split(%q, %q) = %q, %q, %v, want %q, %q, %v", c.s, c.at, a, b, ok, c.before, c.after, c.ok)
		}
	}
}

func TestSplitAtEveryByte(t *testing.T) {
	for c := range 256 {
		b := string([]byte{byte(c)})
		if a, z, ok := Split("+\t-"+b+" 1"+b+"2 ", byte(c)); !isBlank(byte(c)) && c != '+' && c != '-' && (a != "+\t-" || z != "1"+b+"2" || !ok) {
			t.Errorf("Split at %q = %q, %q, %v", b, a, z, ok)
		}
		if a, z, ok := Split("", byte(c)); a != "" || z != "" || ok {
			t.Errorf("Split of nothing at %q = %q, %q, %v", b, a, z, ok)
		}
	}
}

func TestSplitOfAllShortStrings(t *testing.T) {
	trimmed := func(s string) string {
		for s != "" && isBlank(s[0]) {
			s = s[1:]
		}
		for s != "" && isBlank(s[len(s)-1]) {
			s = s[:len(s)-1]
		}
		return s
	}
	const alphabet = "a= \t\n"
	for _, s := range allStrings(alphabet, 6) {
		for i := range len(alphabet) {
			c := alphabet[i]
			before, after, found := s, "", false
			for k := len(s) - 1; k >= 0; k-- {
				if s[k] == c {
					before, after, found = trimmed(s[:k]), trimmed(s[k+1:]), true
				}
			}
			if a, b, ok := Split(s, c); a != before || b != after || ok != found {
				t.Fatalf("Split(%q, %q) = %q, %q, %v, want %q, %q, %v", s, c, a, b, ok, before, after, found)
			}
		}
	}
}
