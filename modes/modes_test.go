package modes_test

import (
	"math"
	"strings"
	"sync"
	"testing"

	"poste/api"
	"poste/modes"
)

// all are the modes, by number.
var all = []int{api.None, api.IS, api.IX, api.S, api.SIX, api.X}

// others are numbers that are no mode, those next to the modes and far ones.
var others = []int{
	-1, 6, -2, 7, 8, -5, -6, 1 << 8, 1 << 16, 1 << 32, 1<<32 + api.IS, 1<<62 + api.S,
	-1 << 32, math.MaxInt32, math.MinInt32, math.MaxInt, math.MinInt,
}

// plain are what the chapter tells of each mode, by number: its name, those that
// it fits, and those that it covers.
var plain = []struct{ name, fits, covers string }{
	{"None", "None IS IX S SIX X", "None"},
	{"IS", "None IS IX S SIX", "None IS"},
	{"IX", "None IS IX", "None IS IX"},
	{"S", "None IS S", "None IS S"},
	{"SIX", "None IS", "None IS IX S SIX"},
	{"X", "None", "None IS IX S SIX X"},
}

func name(m int) string { return plain[m].name }

func listed(list string, m int) bool {
	return strings.Contains(" "+list+" ", " "+name(m)+" ")
}

func TestP1001NumbersOfModes(t *testing.T) {
	for i, m := range all {
		if m != i {
			t.Errorf("mode %s is %d, not %d", name(m), m, i)
		}
	}
}

func TestP1001Fits(t *testing.T) {
	for _, a := range all {
		for _, b := range all {
			if got := modes.Fits(a, b); got != listed(plain[a].fits, b) {
				t.Errorf("Fits(%s, %s): %v", name(a), name(b), got)
			}
		}
	}
}

func TestP1001FitsIsTheSameBothWays(t *testing.T) {
	for _, a := range append(all, others...) {
		for _, b := range append(all, others...) {
			if modes.Fits(a, b) != modes.Fits(b, a) {
				t.Errorf("Fits(%d, %d) is not Fits(%d, %d)", a, b, b, a)
			}
		}
	}
}

func TestP1001Covers(t *testing.T) {
	for _, a := range all {
		for _, b := range all {
			if got := modes.Covers(a, b); got != listed(plain[a].covers, b) {
				t.Errorf("Covers(%s, %s): %v", name(a), name(b), got)
			}
		}
	}
}

// What covers another one fits no mode that the other one does not fit.
func TestP1001CoversFitsNoMore(t *testing.T) {
	for _, a := range all {
		for _, b := range all {
			for _, c := range all {
				if modes.Covers(a, b) && modes.Fits(a, c) && !modes.Fits(b, c) {
					t.Errorf("%s covers %s, but fits %s, which %s does not", name(a), name(b), name(c), name(b))
				}
			}
		}
	}
}

func TestP1001Join(t *testing.T) {
	for _, c := range []struct{ a, b, want int }{
		{api.None, api.None, api.None},
		{api.None, api.IS, api.IS}, {api.None, api.IX, api.IX}, {api.None, api.S, api.S},
		{api.None, api.SIX, api.SIX}, {api.None, api.X, api.X},
		{api.IS, api.IS, api.IS}, {api.IS, api.IX, api.IX}, {api.IS, api.S, api.S},
		{api.IS, api.SIX, api.SIX}, {api.IS, api.X, api.X},
		{api.IX, api.IX, api.IX}, {api.IX, api.S, api.SIX}, {api.IX, api.SIX, api.SIX}, {api.IX, api.X, api.X},
		{api.S, api.S, api.S}, {api.S, api.SIX, api.SIX}, {api.S, api.X, api.X},
		{api.SIX, api.SIX, api.SIX}, {api.SIX, api.X, api.X},
		{api.X, api.X, api.X},
	} {
		if got := modes.Join(c.a, c.b); got != c.want {
			t.Errorf("Join(%s, %s): %d, not %s", name(c.a), name(c.b), got, name(c.want))
		}
		if got := modes.Join(c.b, c.a); got != c.want {
			t.Errorf("Join(%s, %s): %d, not %s", name(c.b), name(c.a), got, name(c.want))
		}
	}
}

// Join covers both, and each mode that does covers it, too.
func TestP1001JoinIsTheLeast(t *testing.T) {
	for _, a := range all {
		for _, b := range all {
			got := modes.Join(a, b)
			if !listed(plain[got].covers, a) || !listed(plain[got].covers, b) {
				t.Errorf("Join(%s, %s): %s does not cover both", name(a), name(b), name(got))
			}
			for _, c := range all {
				if listed(plain[c].covers, a) && listed(plain[c].covers, b) && !listed(plain[c].covers, got) {
					t.Errorf("Join(%s, %s): %s, but %s is less", name(a), name(b), name(got), name(c))
				}
			}
		}
	}
}

func TestP1001Above(t *testing.T) {
	for _, c := range []struct{ m, want int }{
		{api.None, api.None}, {api.IS, api.IS}, {api.IX, api.IX},
		{api.S, api.IS}, {api.SIX, api.IX}, {api.X, api.IX},
	} {
		if got := modes.Above(c.m); got != c.want {
			t.Errorf("Above(%s): %d, not %s", name(c.m), got, name(c.want))
		}
	}
}

// On the whole nobody is kept off for parts: which of them fit is told there.
func TestP1001AboveFitsAbove(t *testing.T) {
	for _, a := range all {
		for _, b := range all {
			if !modes.Fits(modes.Above(a), modes.Above(b)) {
				t.Errorf("of the whole, what %s and %s of parts want does not fit", name(a), name(b))
			}
		}
	}
}

func TestP1001AnotherNumberIsAsX(t *testing.T) {
	for _, o := range others {
		if got := modes.Above(o); got != api.IX {
			t.Errorf("Above(%d): %d", o, got)
		}
		for _, m := range append(all, others...) {
			x := m
			if m < 0 || m > 5 {
				x = api.X
			}
			if got := modes.Fits(o, m); got != listed(plain[api.X].fits, x) {
				t.Errorf("Fits(%d, %d): %v", o, m, got)
			}
			if got := modes.Fits(m, o); got != listed(plain[x].fits, api.X) {
				t.Errorf("Fits(%d, %d): %v", m, o, got)
			}
			if got := modes.Covers(o, m); !got {
				t.Errorf("Covers(%d, %d): %v", o, m, got)
			}
			if got := modes.Covers(m, o); got != listed(plain[x].covers, api.X) {
				t.Errorf("Covers(%d, %d): %v", m, o, got)
			}
			if got := modes.Join(o, m); got != api.X {
				t.Errorf("Join(%d, %d): %d", o, m, got)
			}
			if got := modes.Join(m, o); got != api.X {
				t.Errorf("Join(%d, %d): %d", m, o, got)
			}
		}
	}
}

// answers are what all calls answer of all pairs, one behind the other.
func answers() []int {
	var l []int
	flag := func(b bool) int {
		if b {
			return 1
		}
		return 0
	}
	numbers := append(append([]int(nil), all...), others...)
	for _, a := range numbers {
		l = append(l, modes.Above(a))
		for _, b := range numbers {
			l = append(l, flag(modes.Fits(a, b)), flag(modes.Covers(a, b)), modes.Join(a, b))
		}
	}
	return l
}

func TestP1002HangsOnArgumentsAlone(t *testing.T) {
	want := answers()
	got := make([][]int, 8)
	var workers sync.WaitGroup
	for i := range got {
		workers.Go(func() { got[i] = answers() })
	}
	workers.Wait()
	for _, l := range got {
		if len(l) != len(want) {
			t.Fatalf("%d answers, not %d", len(l), len(want))
		}
		for i := range l {
			if l[i] != want[i] {
				t.Fatalf("answer %d is %d, and was %d", i, l[i], want[i])
			}
		}
	}
}
