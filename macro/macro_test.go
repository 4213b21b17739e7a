package macro

import (
	"slices"
	"strconv"
	"strings"
	"testing"

	"millwright/api"
)

// letters are the bytes of the strings that are enumerated: every byte with a meaning, and two names.
const letters = "$()ab"

// longName is a name of the greatest length.
const longName = "abcdefghijklmnopqrstuvwxyz0123456789_./-"

// allStrings returns the strings of up to n bytes, each of them from the alphabet.
func allStrings(alphabet string, n int) []string {
	l := []string{""}
	for from := 0; n > 0; n-- {
		to := len(l)
		for _, s := range l[from:to] {
			for i := range len(alphabet) {
				l = append(l, s+alphabet[i:i+1])
			}
		}
		from = to
	}
	return l
}

// macros returns the macros with these names and values, in turn.
func macros(l ...string) []api.Macro {
	var m []api.Macro
	for i := 0; i < len(l); i += 2 {
		m = append(m, api.Macro{Name: l[i], Value: l[i+1]})
	}
	return m
}

// shown returns the names and values of l as one string, for messages.
func shown(l []api.Macro) string {
	var parts []string
	for _, m := range l {
		parts = append(parts, m.Name+"="+m.Value)
	}
	return strings.Join(parts, ",")
}

// numbered returns the name of the macro with the number i.
func numbered(i int) string { return "m" + strconv.Itoa(i) }

// isName reports whether s is a name, by the definition of chapter 3.
func isName(s string) bool {
	for i := range len(s) {
		c := s[i]
		letter := 'a' <= c && c <= 'z' || 'A' <= c && c <= 'Z' || '0' <= c && c <= '9'
		if !letter && c != '_' && c != '.' && c != '/' && c != '-' && c != '+' {
			return false
		}
	}
	return 1 <= len(s) && len(s) <= 40
}

// piece is a part of a string that is expanded: a byte, or the name of a reference.
type piece struct {
	plain    byte
	referred string
}

// piecesByDefinition reads s from left to right, byte by byte.
func piecesByDefinition(s string) ([]piece, bool) {
	var l []piece
	for i := 0; i < len(s); {
		if s[i] != '$' {
			l = append(l, piece{plain: s[i]})
			i++
			continue
		}
		if i+1 < len(s) && s[i+1] == '$' {
			l = append(l, piece{plain: '$'})
			i += 2
			continue
		}
		if i+1 == len(s) || s[i+1] != '(' {
			return nil, false
		}
		end := i + 2
		for end < len(s) && s[end] != ')' {
			end++
		}
		if end == len(s) || !isName(s[i+2:end]) {
			return nil, false
		}
		l = append(l, piece{referred: s[i+2 : end]})
		i = end + 1
	}
	return l, true
}

// usesByDefinition returns the distinct names of the references of s.
func usesByDefinition(s string) ([]string, api.Errno) {
	pieces, ok := piecesByDefinition(s)
	if !ok {
		return nil, api.ErrForm
	}
	var l []string
	for _, p := range pieces {
		if p.referred != "" && !slices.Contains(l, p.referred) {
			l = append(l, p.referred)
		}
	}
	return l, api.OK
}

// valueOf returns the value of the first macro with this name.
func valueOf(l []api.Macro, name string) (string, bool) {
	for _, m := range l {
		if m.Name == name {
			return m.Value, true
		}
	}
	return "", false
}

// refersTo reports whether s refers to the name, directly or through at most depth other macros.
func refersTo(l []api.Macro, s, name string, depth int) bool {
	used, _ := usesByDefinition(s)
	for _, n := range used {
		value, _ := valueOf(l, n)
		if n == name || depth > 0 && refersTo(l, value, name, depth-1) {
			return true
		}
	}
	return false
}

// checkByDefinition follows the order of the errors of Check.
func checkByDefinition(l []api.Macro) api.Errno {
	for i, m := range l {
		if _, e := usesByDefinition(m.Value); !isName(m.Name) || e != api.OK {
			return api.ErrForm
		}
		if _, there := valueOf(l[:i], m.Name); there {
			return api.ErrThere
		}
	}
	for _, m := range l {
		used, _ := usesByDefinition(m.Value)
		for _, n := range used {
			if _, there := valueOf(l, n); !there {
				return api.ErrNone
			}
		}
	}
	for _, m := range l {
		if refersTo(l, m.Value, m.Name, len(l)) {
			return api.ErrCycle
		}
	}
	return api.OK
}

// expandByDefinition returns the expansion of s, for macros without an error.
func expandByDefinition(l []api.Macro, s string) string {
	var expanded []byte
	pieces, _ := piecesByDefinition(s)
	for _, p := range pieces {
		if p.referred == "" {
			expanded = append(expanded, p.plain)
			continue
		}
		value, _ := valueOf(l, p.referred)
		expanded = append(expanded, expandByDefinition(l, value)...)
	}
	return string(expanded)
}

// flatByDefinition returns the macros with their expansions, for macros without an error.
func flatByDefinition(l []api.Macro) []api.Macro {
	var flat []api.Macro
	for _, m := range l {
		flat = append(flat, api.Macro{Name: m.Name, Value: expandByDefinition(l, m.Value)})
	}
	return flat
}

// checkErrors compares the errors of Check and of Flat for l, and of Expand for l and any string, with those wanted.
func checkErrors(t *testing.T, what string, l []api.Macro, check, flat api.Errno) {
	t.Helper()
	if e := Check(l); e != check {
		t.Errorf("%s: Check = %d, want %d", what, e, check)
	}
	m, e := Flat(l)
	if e != flat || e != api.OK && len(m) != 0 {
		t.Errorf("%s: Flat = %d macros, %d, want %d", what, len(m), e, flat)
	}
	if flat == api.OK {
		return
	}
	// The errors of the macros come before those of the string.
	for _, s := range []string{"", "x", "$", "$(none)", strings.Repeat("x", 2001)} {
		if u, e := Expand(l, s); u != "" || e != flat {
			t.Errorf("%s: Expand = %q, %d, want %d", what, u, e, flat)
		}
	}
}

func TestUses(t *testing.T) {
	for _, c := range []struct {
		s    string
		want []string
	}{
		{"", nil},
		{"a", nil},
		{"(a)", nil},
		{")(", nil},
		{"$$", nil},
		{"$$$$", nil},
		{"$$(a)", nil},
		{"$(a)", []string{"a"}},
		{"$(a)$(a)$(a)", []string{"a"}},
		{"$(b)$(a)", []string{"b", "a"}},
		{"$(b)$$$(a)$(b)", []string{"b", "a"}},
		{"$(c) $(a) $(b) $(a) $(c)", []string{"c", "a", "b"}},
		{"$$$(a)", []string{"a"}},
		{"$$$$(a)$(b)", []string{"b"}},
		{"$(a))", []string{"a"}},
		{"($(a))", []string{"a"}},
		{"$(a)(b)", []string{"a"}},
		{"$(A)$(a)", []string{"A", "a"}},
		{"x $(lib/a-b_c+d.e) y", []string{"lib/a-b_c+d.e"}},
		{"$(" + longName + ")", []string{longName}},
		{"\x00$(a)\xff\n", []string{"a"}},
	} {
		if l, e := Uses(c.s); !slices.Equal(l, c.want) || e != api.OK {
			t.Errorf("Uses(%q) = %q, %d, want %q", c.s, l, e, c.want)
		}
	}
}

func TestUsesOfOtherForms(t *testing.T) {
	for _, s := range []string{
		"$", "a$", "$a", "$ ", "$ (a)", "$)", "$(", "$()", "$(a", "$(a(", "$((a)", "$( a)", "$(a )", "$(a b)",
		"$$$", "$$$a", "$(a)$", "$(a)$b", "$$$(", "$(a$)", "$(a$$)", "$($(a))", "$($$)", "$(a$(b))", "$(a\n)", "$(\u00e9)",
		"${a}", "$[a]", "$(" + longName + "a)",
	} {
		if l, e := Uses(s); len(l) != 0 || e != api.ErrForm {
			t.Errorf("Uses(%q) = %q, %d, want ErrForm", s, l, e)
		}
	}
}

func TestUsesOfAllShortStrings(t *testing.T) {
	for _, s := range allStrings(letters, 8) {
		want, wantError := usesByDefinition(s)
		if l, e := Uses(s); !slices.Equal(l, want) || e != wantError {
			t.Fatalf("Uses(%q) = %q, %d, want %q, %d", s, l, e, want, wantError)
		}
	}
}

func TestUsesOfEveryByte(t *testing.T) {
	for c := range 256 {
		b := string([]byte{byte(c)})
		for _, s := range []string{b, "$" + b, "$" + b + "a)", "$(" + b + ")", "$(a" + b + ")", "$(" + b + "a)", "$(a" + b, "$(a)" + b} {
			want, wantError := usesByDefinition(s)
			if l, e := Uses(s); !slices.Equal(l, want) || e != wantError {
				t.Errorf("Uses(%q) = %q, %d, want %q, %d", s, l, e, want, wantError)
			}
		}
	}
}

func TestUsesHasNoLimit(t *testing.T) {
	var s strings.Builder
	var want []string
	for i := range 20000 {
		want = append(want, numbered(i))
		s.WriteString("$(" + numbered(i) + ")$(" + numbered(i/2) + ") $$")
	}
	if l, e := Uses(s.String()); !slices.Equal(l, want) || e != api.OK {
		t.Error(len(l), e)
	}
	if l, e := Uses(s.String() + "$"); len(l) != 0 || e != api.ErrForm {
		t.Error(len(l), e)
	}
}

func TestCheckAcceptsMacros(t *testing.T) {
	for _, l := range [][]api.Macro{
		nil,
		{},
		macros("a", ""),
		macros("a", "b"),
		macros("a", "a"),
		macros("a", "$$(a)"),
		macros("a", "$(b)", "b", ""),
		macros("b", "", "a", "$(b)"),
		macros("a", "$(b)$(c)", "b", "$(c)", "c", "x"),
		macros("a", "1", "A", "2", "a.", "3"),
		macros(longName, "x", "a", "$("+longName+")"),
		macros("a", "x = y : z # \n\t\x00\xff"),
	} {
		checkErrors(t, strconv.Quote(shown(l)), l, api.OK, api.OK)
	}
}

func TestCheckOfInvalidMacros(t *testing.T) {
	for _, c := range []struct {
		l    []api.Macro
		want api.Errno
	}{
		{macros("", ""), api.ErrForm},
		{macros("a b", "x"), api.ErrForm},
		{macros("$(a)", "x"), api.ErrForm},
		{macros(longName+"a", "x"), api.ErrForm},
		{macros("a", "$"), api.ErrForm},
		{macros("a", "$b"), api.ErrForm},
		{macros("a", "x", "b", "$(a"), api.ErrForm},
		{macros("a", "x", "b", "y", "\u00e9", "z"), api.ErrForm},
		{macros("a", "1", "a", "2"), api.ErrThere},
		{macros("a", "1", "b", "1", "a", "1"), api.ErrThere},
		{macros("a", "", "a", ""), api.ErrThere},
		{macros("a", "$(b)"), api.ErrNone},
		{macros("a", "x", "b", "$(a)$(A)"), api.ErrNone},
		{macros("a", "$(a)"), api.ErrCycle},
		{macros("a", "x", "b", "y $(b)"), api.ErrCycle},
		{macros("a", "$(b)", "b", "$(a)"), api.ErrCycle},
		{macros("a", "$(b)", "b", "$(c)", "c", "$(a)"), api.ErrCycle},
		{macros("a", "$(b)", "b", "$(c)", "c", "$(b)"), api.ErrCycle},
		{macros("a", "x", "b", "$(a)$(c)", "c", "$(a)$(b)"), api.ErrCycle},
	} {
		checkErrors(t, strconv.Quote(shown(c.l)), c.l, c.want, c.want)
	}
}

func TestTheOrderOfTheErrorsOfCheck(t *testing.T) {
	for _, c := range []struct {
		l    []api.Macro
		want api.Errno
	}{
		// One macro after the other, and of each one its form first.
		{macros("a", "1", "a", "$"), api.ErrForm},
		{macros("a", "1", "a", "2", "b", "$"), api.ErrThere},
		{macros("a", "1", "a", "2", "", "x"), api.ErrThere},
		{macros("a", "1", "b", "$", "a", "2"), api.ErrForm},
		{macros("a", "1", "", "x", "a", "2"), api.ErrForm},
		{macros("", "1", "", "2"), api.ErrForm},
		// Both before macros that are missing, and these before cycles.
		{macros("a", "$(q)", "b", "$"), api.ErrForm},
		{macros("a", "$(q)", "b c", "x"), api.ErrForm},
		{macros("a", "$(q)", "a", "x"), api.ErrThere},
		{macros("a", "$(a)", "b", "$"), api.ErrForm},
		{macros("a", "$(a)", "b", "x", "b", "y"), api.ErrThere},
		{macros("a", "$(a)", "b", "$(q)"), api.ErrNone},
		{macros("a", "$(a)$(q)"), api.ErrNone},
		{macros("a", "$(b)", "b", "$(a)", "c", "$(q)"), api.ErrNone},
		// All of them before an expansion that is too long.
		{macros("a", strings.Repeat("x", 2001), "b", "$"), api.ErrForm},
		{macros("a", strings.Repeat("x", 2001), "a", "x"), api.ErrThere},
		{macros("a", strings.Repeat("x", 2001), "b", "$(q)"), api.ErrNone},
		{macros("a", strings.Repeat("x", 2001), "b", "$(b)"), api.ErrCycle},
	} {
		checkErrors(t, strconv.Quote(shown(c.l)), c.l, c.want, c.want)
	}
}

func TestCheckUpToTheNumberOfMacros(t *testing.T) {
	for _, n := range []int{39, 40, 41, 42, 1000} {
		var l []api.Macro
		for i := range n {
			l = append(l, api.Macro{Name: numbered(i), Value: "x"})
		}
		want := api.OK
		if n > 40 {
			want = api.ErrLarge
		}
		checkErrors(t, strconv.Itoa(n)+" macros", l, want, want)
	}
	// Too many macros come before anything that is wrong with them.
	for _, m := range []api.Macro{{}, {Name: "a", Value: "$"}, {Name: "a", Value: "$(q)"}, {Name: "a", Value: "$(a)"}} {
		checkErrors(t, "41 times "+m.Name+"="+m.Value, slices.Repeat([]api.Macro{m}, 41), api.ErrLarge, api.ErrLarge)
	}
}

func TestCheckOfAllReferencesAmongFourMacros(t *testing.T) {
	names := []string{"a", "b", "c", "d"}
	for bits := range 1 << 16 {
		var l []api.Macro
		var reach [4][4]bool
		for i, n := range names {
			value := ""
			for j, other := range names {
				if reach[i][j] = bits>>(4*i+j)&1 == 1; reach[i][j] {
					value += "$(" + other + ")"
				}
			}
			l = append(l, api.Macro{Name: n, Value: value})
		}
		want := api.OK
		for k := range names {
			for i := range names {
				for j := range names {
					reach[i][j] = reach[i][j] || reach[i][k] && reach[k][j]
				}
			}
		}
		for i := range names {
			if reach[i][i] {
				want = api.ErrCycle
			}
		}
		if e := Check(l); e != want {
			t.Fatalf("Check(%q) = %d, want %d", shown(l), e, want)
		}
	}
}

func TestAllShortMacros(t *testing.T) {
	values := append(allStrings("$a", 2), "$(a)", "$(b)", "$(c)", "$(b)$(b)", "$(a)$(c)", "x$(b)y$$", "$$(a)")
	names := []string{"a", "b", "c", "", "$"}
	for _, second := range names {
		for _, v := range values {
			for _, w := range values {
				for _, x := range values {
					l := macros("a", v, second, w, "c", x)
					want := checkByDefinition(l)
					if e := Check(l); e != want {
						t.Fatalf("Check(%q) = %d, want %d", shown(l), e, want)
					}
					flat, e := Flat(l)
					if e != want || e != api.OK && len(flat) != 0 {
						t.Fatalf("Flat(%q) = %q, %d, want %d", shown(l), shown(flat), e, want)
					}
					if e == api.OK && !slices.Equal(flat, flatByDefinition(l)) {
						t.Fatalf("Flat(%q) = %q", shown(l), shown(flat))
					}
				}
			}
		}
	}
}

func TestFlat(t *testing.T) {
	for _, c := range []struct{ l, want []api.Macro }{
		{nil, nil},
		{macros("a", ""), macros("a", "")},
		{macros("a", "x"), macros("a", "x")},
		{macros("a", "$$"), macros("a", "$")},
		{macros("a", "$$$$"), macros("a", "$$")},
		{macros("CC", "gcc", "C", "$(CC) -c"), macros("CC", "gcc", "C", "gcc -c")},
		{macros("C", "$(CC) -c", "CC", "gcc"), macros("C", "gcc -c", "CC", "gcc")},
		{macros("b", "$(a)", "a", "", "c", "<$(b)>"), macros("b", "", "a", "", "c", "<>")},
		{macros("a", "$(b) $(b)", "b", "$$$(c)", "c", "x"), macros("a", "$x $x", "b", "$x", "c", "x")},
		// An expansion is not expanded again.
		{macros("a", "$$(b)", "b", "x", "c", "$(a)"), macros("a", "$(b)", "b", "x", "c", "$(b)")},
		{macros("a", "$$", "b", "$(a)$(a)(c)", "c", "$(b)"), macros("a", "$", "b", "$$(c)", "c", "$$(c)")},
		{macros("a", " x\t", "b", "[$(a)]"), macros("a", " x\t", "b", "[ x\t]")},
		{macros("a", "\x00\xff\n", "b", "$(a)$(a)"), macros("a", "\x00\xff\n", "b", "\x00\xff\n\x00\xff\n")},
	} {
		if l, e := Flat(c.l); !slices.Equal(l, c.want) || e != api.OK {
			t.Errorf("Flat(%q) = %q, %d, want %q", shown(c.l), shown(l), e, shown(c.want))
		}
	}
}

func TestFlatOfLongChains(t *testing.T) {
	var up, down, want []api.Macro
	for i := range 40 {
		value := "x"
		if i > 0 {
			value = "$(" + numbered(i-1) + ")x"
		}
		up = append(up, api.Macro{Name: numbered(i), Value: value})
		want = append(want, api.Macro{Name: numbered(i), Value: strings.Repeat("x", i+1)})
	}
	down = slices.Clone(up)
	slices.Reverse(down)
	if l, e := Flat(up); !slices.Equal(l, want) || e != api.OK {
		t.Error(shown(l), e)
	}
	up[0].Value = "$(" + numbered(39) + ")"
	checkErrors(t, "a cycle of 40 macros", up, api.ErrCycle, api.ErrCycle)
	slices.Reverse(want)
	if l, e := Flat(down); !slices.Equal(l, want) || e != api.OK {
		t.Error(shown(l), e)
	}
}

func TestFlatUpToTheLimit(t *testing.T) {
	thousand := strings.Repeat("x", 1000)
	for i, c := range []struct {
		l    []api.Macro
		want api.Errno
	}{
		{macros("a", strings.Repeat("x", 1999)), api.OK},
		{macros("a", strings.Repeat("x", 2000)), api.OK},
		{macros("a", strings.Repeat("x", 2001)), api.ErrLarge},
		{macros("a", "x", "b", strings.Repeat("x", 2001), "c", "x"), api.ErrLarge},
		// The value may be longer than its expansion, and shorter.
		{macros("a", strings.Repeat("$$", 2000)), api.OK},
		{macros("a", strings.Repeat("$$", 2001)), api.ErrLarge},
		{macros("a", "", "b", strings.Repeat("$(a)", 5000)), api.OK},
		{macros("a", "x", "b", strings.Repeat("$(a)", 2000)), api.OK},
		{macros("a", "x", "b", strings.Repeat("$(a)", 2001)), api.ErrLarge},
		{macros("a", thousand, "b", "$(a)$(a)"), api.OK},
		{macros("a", thousand, "b", "$(a)$(a)$$"), api.ErrLarge},
		{macros("a", thousand, "b", "$$$(a)$(a)"), api.ErrLarge},
		{macros("a", thousand, "b", "$(a)-$(a)"), api.ErrLarge},
		{macros("b", "$(a)$(a) ", "a", thousand), api.ErrLarge},
		{macros("a", thousand, "b", "$(a)$(a)", "c", "$(b)"), api.OK},
		{macros("a", thousand, "b", "$(a)$(a)", "c", "$(b)x"), api.ErrLarge},
		// What comes after a part that does not fit would fit again.
		{macros("a", "x"+strings.Repeat("y", 2000)+"$$z"), api.ErrLarge},
	} {
		checkErrors(t, "case "+strconv.Itoa(i), c.l, api.OK, c.want)
		if l, e := Flat(c.l); e == api.OK && !slices.Equal(l, flatByDefinition(c.l)) {
			t.Errorf("case %d: another result", i)
		}
	}
}

func TestExpansionsThatWouldBeHuge(t *testing.T) {
	for _, c := range []struct {
		first string
		want  api.Errno
	}{{"x", api.ErrLarge}, {"", api.OK}} {
		l := macros(numbered(0), c.first)
		for i := 1; i < 40; i++ {
			previous := "$(" + numbered(i-1) + ")"
			l = append(l, api.Macro{Name: numbered(i), Value: previous + previous})
		}
		for range 2 {
			checkErrors(t, "doubled 39 times", l, api.OK, c.want)
			slices.Reverse(l)
		}
		if c.want != api.OK {
			continue
		}
		if s, e := Expand(l, "<"+strings.Repeat("$("+numbered(39)+")", 1000)+">"); s != "<>" || e != api.OK {
			t.Error(s, e)
		}
	}
	long := macros("a", strings.Repeat("x", 2000))
	if s, e := Expand(long, strings.Repeat("$(a)", 1000000)); s != "" || e != api.ErrLarge {
		t.Error(len(s), e)
	}
}

func TestExpand(t *testing.T) {
	l := macros("CC", "gcc", "C", "$(CC) -c", "D", "$$(CC)", "E", "", longName, "long")
	for _, c := range []struct{ s, want string }{
		{"", ""},
		{"a", "a"},
		{" a\t", " a\t"},
		{"(CC)", "(CC)"},
		{"$$", "$"},
		{"$$$$", "$$"},
		{"$$CC", "$CC"},
		{"$$(CC)", "$(CC)"},
		{"$$$(CC)", "$gcc"},
		{"$$$$(CC)", "$$(CC)"},
		{"$(C) $$x", "gcc -c $x"},
		{"<$(CC)$(C)>", "<gccgcc -c>"},
		{"$(CC))", "gcc)"},
		{"$(D)", "$(CC)"},
		{"$(D)$(D)", "$(CC)$(CC)"},
		{"$(E)", ""},
		{"x$(E)y", "xy"},
		{"$(" + longName + ")", "long"},
		{"\x00\n\xff$(CC)", "\x00\n\xffgcc"},
	} {
		if s, e := Expand(l, c.s); s != c.want || e != api.OK {
			t.Errorf("Expand(%q) = %q, %d, want %q", c.s, s, e, c.want)
		}
	}
	if s, e := Expand(nil, "a $$ b"); s != "a $ b" || e != api.OK {
		t.Error(s, e)
	}
}

func TestExpandOfAllShortStrings(t *testing.T) {
	l := macros("a", "$(c)<$(c)>", "c", "$$(a)")
	for _, s := range allStrings(letters, 8) {
		used, want := usesByDefinition(s)
		if slices.ContainsFunc(used, func(n string) bool { return n != "a" }) {
			want = api.ErrNone
		}
		wanted := ""
		if want == api.OK {
			wanted = expandByDefinition(l, s)
		}
		if u, e := Expand(l, s); u != wanted || e != want {
			t.Fatalf("Expand(%q) = %q, %d, want %q, %d", s, u, e, wanted, want)
		}
	}
}

func TestExpandOfInvalidStrings(t *testing.T) {
	l := macros("a", "x", "b", strings.Repeat("y", 2000))
	long := strings.Repeat("x", 2001)
	for _, c := range []struct {
		s    string
		want api.Errno
	}{
		{"$", api.ErrForm},
		{"$a", api.ErrForm},
		{"$(a", api.ErrForm},
		{"$()", api.ErrForm},
		{"$(a b)", api.ErrForm},
		{"$(a)$", api.ErrForm},
		{"$(" + longName + "a)", api.ErrForm},
		{"$(q)", api.ErrNone},
		{"$(A)", api.ErrNone},
		{"$(a)$(a)$(ab)", api.ErrNone},
		{long, api.ErrLarge},
		{"$(b)$(a)", api.ErrLarge},
		{"$$$(b)", api.ErrLarge},
		// The form comes before what is missing, and that before the length.
		{"$(q)$", api.ErrForm},
		{"$(q)$(a", api.ErrForm},
		{long + "$", api.ErrForm},
		{"$(b)$(b)$", api.ErrForm},
		{long + "$(q)", api.ErrNone},
		{"$(b)$(b)$(q)", api.ErrNone},
	} {
		if u, e := Expand(l, c.s); u != "" || e != c.want {
			t.Errorf("Expand(%q) = %q, %d, want %d", c.s, u, e, c.want)
		}
	}
}

func TestExpandUpToTheLimit(t *testing.T) {
	l := macros("a", strings.Repeat("x", 999), "b", "")
	for _, c := range []struct {
		s    string
		want api.Errno
	}{
		{strings.Repeat("y", 2000), api.OK},
		{strings.Repeat("y", 2001), api.ErrLarge},
		{strings.Repeat("$$", 2000), api.OK},
		{strings.Repeat("$$", 2001), api.ErrLarge},
		{"$(a)$(a)yy", api.OK},
		{"$(a)$(a)yyy", api.ErrLarge},
		{"y$(a)y$(a)", api.OK},
		{"y$(a)$$y$(a)", api.ErrLarge},
		{"yyy$(a)$(a)$(b)", api.ErrLarge},
		{strings.Repeat("$(b)", 5000), api.OK},
		{strings.Repeat("y", 2000) + "$(b)", api.OK},
	} {
		want := ""
		if c.want == api.OK {
			want = expandByDefinition(l, c.s)
		}
		if s, e := Expand(l, c.s); s != want || e != c.want {
			t.Errorf("Expand of %d bytes: %d bytes, %d, want %d bytes, %d", len(c.s), len(s), e, len(want), c.want)
		}
	}
}

func TestExpandOfAValueIsItsExpansion(t *testing.T) {
	l := macros("a", "$(b)$$$(c)", "b", "$(c)-$(d)", "c", "$(d)$(d)", "d", "$$(d)")
	flat, e := Flat(l)
	if e != api.OK {
		t.Fatal(e)
	}
	for i, m := range l {
		for _, s := range []string{m.Value, "$(" + m.Name + ")"} {
			if u, e := Expand(l, s); u != flat[i].Value || e != api.OK {
				t.Errorf("Expand(%q) = %q, %d, want %q", s, u, e, flat[i].Value)
			}
		}
	}
}

func TestArgumentsAreNotModified(t *testing.T) {
	all := macros("a", "$(b)$$", "b", "$(c)x", "c", "y", "beyond", "$(a)")
	for range 2 {
		before := slices.Clone(all)
		l := all[:3]
		Check(l)
		flat, e := Flat(l)
		if e != api.OK || len(flat) != 3 {
			t.Fatal(flat, e)
		}
		if _, e := Expand(l, "$(a)"); e != api.OK {
			t.Fatal(e)
		}
		if !slices.Equal(all, before) {
			t.Errorf("the macros were %q and are %q", shown(before), shown(all))
		}
		slices.Reverse(all[:3])
	}
}

func TestResultsAreNewMemory(t *testing.T) {
	l := macros("a", "x", "b", "$(a)$(a)")
	want := macros("a", "x", "b", "xx")
	first, _ := Flat(l)
	l[0].Value = "changed"
	if !slices.Equal(first, want) {
		t.Errorf("Flat kept its argument: %q", shown(first))
	}
	l[0].Value = "x"
	first[0], first[1] = api.Macro{}, api.Macro{}
	if !slices.Equal(l, macros("a", "x", "b", "$(a)$(a)")) {
		t.Errorf("Flat returned its argument: %q", shown(l))
	}
	if second, _ := Flat(l); !slices.Equal(second, want) {
		t.Errorf("Flat kept its result: %q", shown(second))
	}
	used, _ := Uses("$(a)$(b)")
	used[0], used[1] = "", ""
	if again, _ := Uses("$(a)$(b)"); !slices.Equal(again, []string{"a", "b"}) {
		t.Errorf("Uses kept its result: %q", again)
	}
}
