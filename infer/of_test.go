package infer

import (
	"slices"
	"strings"
	"testing"

	"millwright/api"
)

func TestOf(t *testing.T) {
	for _, c := range []struct{ l, there, s, want string }{
		{"", "", "a.o", ""},
		{"", "a.c", "a.o", ""},
		{".c>.o", "", "a.o", ""},
		{".c>.o", "a.c", "a.o", "a.c"},
		{".c>.o", "a.c a.o", "a.o", "a.c"},
		{".c>.o", "a.o", "a.o", ""},
		{".c>.o", "b.c a.c.c xa.c a.cc a.C", "a.o", ""},
		{".c>.o", "z.c b.c a.c b.c", "a.o", "a.c"},
		// The suffix of the name decides, not that of the file.
		{".c>.o", "a.c", "a.c", ""},
		{".c>.o", "a.c", "a", ""},
		{".c>.o", "a.c", "a.oo", ""},
		{".c>.o", "a.c", "ao", ""},
		{".c>.o", "a.c", "a.O", ""},
		{".c>.o", "a.c a..c", "a.", ""},
		{".oo>.o", "a.oo", "a.o", "a.oo"},
		{".o>.oo", "a.o", "a.oo", "a.o"},
		// The first inference that gives a file is taken, whatever the order of the files is.
		{".c>.o .s>.o", "a.s a.c", "a.o", "a.c"},
		{".s>.o .c>.o", "a.c a.s", "a.o", "a.s"},
		{".s>.o .c>.o", "a.s a.c", "a.o", "a.s"},
		{".c>.o .s>.o", "a.s", "a.o", "a.s"},
		{".c>.x .s>.o .c>.o", "a.c", "a.o", "a.c"},
		{".c>.x .s>.o .c>.o", "a.c", "a.x", "a.c"},
		{".z>.o .m>.o .a>.o", "a.a a.m", "a.o", "a.m"},
		// An inference is not applied to the result of another one.
		{".y>.c .c>.o", "a.y", "a.o", ""},
		{".y>.c .c>.o", "a.y", "a.c", "a.y"},
		{".y>.c .c>.o", "a.y a.c", "a.o", "a.c"},
		{".c>.o .o>.c", "a.c a.o", "a.o", "a.c"},
		{".c>.o .o>.c", "a.c a.o", "a.c", "a.o"},
		// Stems with dots and folders.
		{".c>.o", "lib/x.c", "lib/x.o", "lib/x.c"},
		{".c>.o", "lib/x.c", "x.o", ""},
		{".c>.o", "x.c", "lib/x.o", ""},
		{".c>.o", "a.b.c", "a.b.o", "a.b.c"},
		{".c>.o", "a.b.c", "a.o", ""},
		{".c>.o", "a..c", "a..o", "a..c"},
		{".c>.o", "..c", "..o", "..c"},
		{".c>.o", "./a.c ../a.c", "../a.o", "../a.c"},
		{".c>.o", "a.d/x.c a.c", "a.d/x.o", "a.d/x.c"},
		{".c>.d", "a.c", "a.d/x", ""},
		{".c>.o", "/a.c", "/a.o", "/a.c"},
		{".c>.o", "-.c +.c", "+.o", "+.c"},
		// A dot at the beginning does not start a suffix.
		{".c>.o", ".c", ".o", ""},
		{".c>.o", "lib/.c", "lib/.o", ""},
		{".c>.o", ".a.c", ".a.o", ".a.c"},
		{".c>.o", "lib/.a.c", "lib/.a.o", "lib/.a.c"},
		// Long suffixes.
		{".123456789>.abcdefghi", "a.123456789", "a.abcdefghi", "a.123456789"},
	} {
		l, there := infers(c.l), words(c.there)
		if s, ok, e := Of(l, there, c.s); s != c.want || ok != (c.want != "") || e != api.OK {
			t.Errorf("Of(%q, %q, %q) = %q, %v, %d, want %q", c.l, c.there, c.s, s, ok, e, c.want)
		}
		slices.Reverse(there)
		if s, ok, e := Of(l, there, c.s); s != c.want || ok != (c.want != "") || e != api.OK {
			t.Errorf("Of(%q, %q, %q) = %q, %v, %d, want %q", c.l, there, c.s, s, ok, e, c.want)
		}
	}
}

func TestOfLongNames(t *testing.T) {
	// The prerequisite may be longer than a name can be: then no file has it.
	l := infers(".long>.o .c>.o")
	for n := 1; n <= 38; n++ {
		stem := strings.Repeat("x", n)
		for _, from := range []string{".long", ".c"} {
			if n+len(from) > 40 {
				continue
			}
			there := []string{stem + from}
			if s, ok, e := Of(l, there, stem+".o"); s != there[0] || !ok || e != api.OK {
				t.Errorf("Of(%q, %q) = %q, %v, %d", there, stem+".o", s, ok, e)
			}
		}
	}
	if s, ok, e := Of(infers(".long>.o"), []string{strings.Repeat("x", 38) + ".c"}, strings.Repeat("x", 38)+".o"); s != "" || ok || e != api.OK {
		t.Errorf("Of = %q, %v, %d", s, ok, e)
	}
}

func TestOfManyFiles(t *testing.T) {
	// Of does not limit the number of files.
	there := numbered("f", 300)
	for i := range there {
		there[i] += ".c"
	}
	there = append(there, there...)
	slices.Reverse(there)
	for _, s := range there {
		if got, ok, e := Of(infers(".c>.o"), there, strings.TrimSuffix(s, "c")+"o"); got != s || !ok || e != api.OK {
			t.Errorf("Of the object of %q = %q, %v, %d", s, got, ok, e)
		}
	}
	// Nor does it stop before the last inference.
	l := distinctInfers(20)
	for i, x := range l {
		there := []string{"a" + x.From, "b" + l[19-i].From}
		if got, ok, e := Of(l, there, "a.o"); got != there[0] || !ok || e != api.OK {
			t.Errorf("Of with inference %d = %q, %v, %d", i, got, ok, e)
		}
	}
}

func TestTheErrorsOfOf(t *testing.T) {
	l := infers(".c>.o")
	for _, bad := range invalidNames {
		if s, ok, e := Of(l, words("a.c"), bad); s != "" || ok || e != api.ErrForm {
			t.Errorf("Of the name %q = %q, %v, %d, want ErrForm", bad, s, ok, e)
		}
		if s, ok, e := Of(nil, nil, bad); s != "" || ok || e != api.ErrForm {
			t.Errorf("Of the name %q = %q, %v, %d, want ErrForm", bad, s, ok, e)
		}
		for at := range 3 {
			there := slices.Insert(words("a.c b.c"), at, bad)
			if s, ok, e := Of(l, there, "a.o"); s != "" || ok || e != api.ErrForm {
				t.Errorf("Of with the files %q = %q, %v, %d, want ErrForm", there, s, ok, e)
			}
			if s, ok, e := Of(nil, there, "a"); s != "" || ok || e != api.ErrForm {
				t.Errorf("Of with the files %q = %q, %v, %d, want ErrForm", there, s, ok, e)
			}
		}
		// The error of Check comes first.
		if s, ok, e := Of(infers(".o>.o"), []string{bad}, bad); s != "" || ok || e != api.ErrThere {
			t.Errorf("Of with a wrong inference and %q = %q, %v, %d, want ErrThere", bad, s, ok, e)
		}
		if s, ok, e := Of(distinctInfers(21), []string{bad}, bad); s != "" || ok || e != api.ErrLarge {
			t.Errorf("Of with 21 inferences and %q = %q, %v, %d, want ErrLarge", bad, s, ok, e)
		}
	}
}

// ofByDefinition tries every split of s, and takes the inferences in order; its arguments are valid.
func ofByDefinition(l []api.Infer, there []string, s string) (string, bool) {
	for _, x := range l {
		stem, ends := strings.CutSuffix(s, x.To)
		// To is the suffix of s if a byte other than a slash comes before it: To itself has no other dot and no slash.
		if !ends || stem == "" || stem[len(stem)-1] == '/' {
			continue
		}
		for _, file := range there {
			if file == stem+x.From {
				return file, true
			}
		}
	}
	return "", false
}

// subsets calls f with every list of distinct elements of l, in the order of l.
func subsets[T any](l []T, f func([]T)) {
	for bits := range 1 << len(l) {
		var part []T
		for i, x := range l {
			if bits>>i&1 == 1 {
				part = append(part, x)
			}
		}
		f(part)
	}
}

func TestOfByItsDefinition(t *testing.T) {
	names := []string{"a"}
	for i := 0; len(names) < 400; i++ {
		for _, c := range []string{"a", ".", "/", "b"} {
			names = append(names, names[i]+c)
		}
	}
	for i := range 200 {
		names = append(names, "."+names[i], "/"+names[i])
	}
	files := words("a.a aa.a a.b a.ab a/a.b a/.b .b a..b a.a.b a.a.a /a.a /a.b ..a ..b a/a.a")
	subsets(infers(".a>.b .ab>.b .b>.a .b>.ab .a>.ab .aa>.a"), func(l []api.Infer) {
		for _, s := range names {
			want, there := ofByDefinition(l, files, s)
			if got, ok, e := Of(l, files, s); got != want || ok != there || e != api.OK {
				t.Fatalf("Of(%q, files, %q) = %q, %v, %d, want %q", l, s, got, ok, e, want)
			}
		}
	})
	pairs := infers(".s>.o .c>.o .a>.c .c>.a .o>.a")
	subsets(words("x.c x.a x.s x.o y.c x.c.c"), func(there []string) {
		subsets(pairs, func(l []api.Infer) {
			for _, s := range words("x.o x.c x.a x.s x y.o x.c.o") {
				want, found := ofByDefinition(l, there, s)
				if got, ok, e := Of(l, there, s); got != want || ok != found || e != api.OK {
					t.Fatalf("Of(%q, %q, %q) = %q, %v, %d, want %q", l, there, s, got, ok, e, want)
				}
			}
		})
	})
}
