// Package general tests what the document promises for the whole program.
package general

import (
	"testing"

	"millwright/api"
)

func TestErrorNumbers(t *testing.T) {
	for want, e := range []api.Errno{
		api.OK, api.ErrArg, api.ErrLarge, api.ErrForm, api.ErrRange,
		api.ErrNone, api.ErrThere, api.ErrFull, api.ErrCycle, api.ErrState,
	} {
		if int(e) != want {
			t.Errorf("error %d has the number %d", want, int(e))
		}
	}
}

func TestErrorsAreErrors(t *testing.T) {
	var e error = api.ErrCycle
	if e.Error() != "error 8" {
		t.Error(e.Error())
	}
}

func TestLimits(t *testing.T) {
	for _, c := range []struct {
		name      string
		got, want int64
	}{
		{"MaxSet", api.MaxSet, 64},
		{"MaxNames", api.MaxNames, 64},
		{"MaxPattern", api.MaxPattern, 60},
		{"MaxText", api.MaxText, 2000},
		{"MaxFile", api.MaxFile, 20000},
		{"MaxMacros", api.MaxMacros, 40},
		{"MaxWords", api.MaxWords, 20},
		{"MaxRules", api.MaxRules, 100},
		{"MaxTexts", api.MaxTexts, 20},
		{"MaxLines", api.MaxLines, 200},
		{"MaxInfers", api.MaxInfers, 20},
		{"MaxStamps", api.MaxStamps, 200},
		{"MaxAsks", api.MaxAsks, 60},
		{"MaxDepth", api.MaxDepth, 100},
		{"MaxDrawn", api.MaxDrawn, 400000},
		{"MaxScript", api.MaxScript, 100},
		{"MaxWorkers", api.MaxWorkers, 16},
		{"MaxWork", api.MaxWork, 60},
		{"MaxTime", api.MaxTime, 1099511627776},
	} {
		if c.got != c.want {
			t.Errorf("%s is %d, want %d", c.name, c.got, c.want)
		}
	}
}

func TestKindNumbers(t *testing.T) {
	causes := []int{api.WGone, api.WPhony, api.WDirty, api.WNewer, api.WAnew}
	kinds := []int{
		api.QName, api.QAll, api.QVar, api.QLet, api.QOr, api.QAnd, api.QBut, api.QDeps,
		api.QUsers, api.QDepsIn, api.QUsersIn, api.QWays, api.QSome, api.QMatch, api.QKind,
	}
	for _, l := range [][]int{causes, kinds} {
		for i, n := range l {
			if n != i+1 {
				t.Errorf("constant %d of %v is %d", i+1, l, n)
			}
		}
	}
}
