package locks_test

import (
	"bytes"
	"fmt"
	"math"
	"math/rand"
	"runtime"
	"slices"
	"strconv"
	"strings"
	"sync"
	"testing"

	"poste/api"
	"poste/grant"
	"poste/locks"
	"poste/modes"
)

// all are the modes in which a lock may be held.
var all = []int{api.IS, api.IX, api.S, api.SIX, api.X}

// noModes are numbers that are no mode.
var noModes = []int{-1, 6, -5, 7, 1 << 8, 1<<32 + api.IS, -1 << 32, math.MaxInt, math.MinInt}

// noDepths are numbers so deep that there is nothing.
var noDepths = []int{-1, 3, 4, -2, 1 << 8, 1 << 32, 1<<32 + 1, math.MaxInt, math.MinInt}

// modeNames are the modes, by number.
var modeNames = []string{"None", "IS", "IX", "S", "SIX", "X"}

var store = api.Name{}

func object(o string) api.Name { return api.Name{Deep: 1, Object: o} }

func row(o, r string) api.Name { return api.Name{Deep: 2, Object: o, Row: r} }

// nameOf reads a name: . is the store, a an object, a/k a row of it.
func nameOf(text string) api.Name {
	o, r, deep := strings.Cut(text, "/")
	switch {
	case text == ".":
		return store
	case deep:
		return row(o, r)
	}
	return object(o)
}

// textOf is a name as a text.
func textOf(n api.Name) string {
	switch n.Deep {
	case 0:
		return "." + n.Object + n.Row
	case 1:
		return n.Object + n.Row
	}
	return n.Object + "/" + n.Row
}

// deed is an Ask of who, or its Free if the mode is free.
type deed struct {
	who  int
	name api.Name
	mode int
}

const free = 1000

// tell asks for all that the text says, one by one: 1:S:a/k is asked by 1 and
// granted, 1:S:a/k? waits.
func tell(t *testing.T, k *locks.Table, text string) {
	t.Helper()
	for _, f := range strings.Fields(text) {
		want := api.OK
		if strings.HasSuffix(f, "?") {
			want = api.ErrWait
		}
		p := strings.SplitN(strings.TrimSuffix(f, "?"), ":", 3)
		who, err := strconv.Atoi(p[0])
		if err != nil || len(p) < 3 || slices.Index(modeNames, p[1]) < 0 {
			t.Fatalf("no deed: %s", f)
		}
		if got := k.Ask(who, nameOf(p[2]), slices.Index(modeNames, p[1])); got != want {
			t.Fatalf("%s of %s: %d, not %d", f, text, got, want)
		}
	}
}

// told answers a new table that was told all that.
func told(t *testing.T, text string) *locks.Table {
	t.Helper()
	k := locks.New()
	tell(t, k, text)
	return k
}

// shown is all that a table tells of some, as a text: of each what it holds,
// for what it waits and for whom; and how many there are.
func shown(k *locks.Table, whos []int, names []api.Name) string {
	var b strings.Builder
	for _, who := range whos {
		for _, n := range names {
			if m := k.Mode(who, n); m != api.None {
				fmt.Fprintf(&b, "%d:%s:%s ", who, modeNames[m], textOf(n))
			}
		}
		if n, waits := k.Waiting(who); waits {
			fmt.Fprintf(&b, "%d>%s ", who, textOf(n))
		}
	}
	return b.String() + fmt.Sprint(k.Edges(), " ", k.Count())
}

func someWhos() []int { return []int{0, 1, 2, 3, 4, 5, 6, 7, 8, 9} }

// someNames are near each other, so that one that is taken for another is met.
func someNames() []api.Name {
	return []api.Name{
		store, object(""), object("a"), object("b"), object("c"), row("", ""), row("", "a"),
		row("a", ""), row("a", "b"), row("a", "k"), row("b", ""), row("b", "a"), row("b", "k"), row("ab", ""), row("", "ab"),
	}
}

func shownAll(k *locks.Table) string { return shown(k, someWhos(), someNames()) }

func expect(t *testing.T, what, got, want string) {
	t.Helper()
	if got != want {
		t.Errorf("%s: %q, not %q", what, got, want)
	}
}

func expectErr(t *testing.T, what string, got, want api.Errno) {
	t.Helper()
	if got != want {
		t.Errorf("%s: error %d, not %d", what, got, want)
	}
}

func TestP1301OfANewOne(t *testing.T) {
	k := locks.New()
	if k == nil {
		t.Fatal("New answers nil")
	}
	for _, who := range []int{0, 1, -1, math.MaxInt, math.MinInt} {
		for _, n := range someNames() {
			if k.Mode(who, n) != 0 {
				t.Errorf("Mode(%d, %v) of a new one: %d", who, n, k.Mode(who, n))
			}
		}
		if n, ok := k.Waiting(who); ok || n != (api.Name{}) {
			t.Errorf("Waiting(%d) of a new one: %v, %v", who, n, ok)
		}
		if got := k.Free(who); len(got) != 0 {
			t.Errorf("Free(%d) of a new one: %v", who, got)
		}
	}
	if len(k.Edges()) != 0 || k.Count() != 0 {
		t.Errorf("a new one: %v, %d", k.Edges(), k.Count())
	}
}

func TestP1301AskOfNothingSoDeep(t *testing.T) {
	k := told(t, "1:X:. 1:X:a 2:S:a?")
	before := shownAll(k)
	for _, deep := range noDepths {
		for who := range 4 {
			for _, m := range append([]int{api.None, -1, 6}, all...) {
				for _, n := range []api.Name{{Deep: deep}, {Deep: deep, Object: "a"}, {Deep: deep, Object: "a", Row: "k"}} {
					expectErr(t, fmt.Sprintf("Ask(%d, %v, %d)", who, n, m), k.Ask(who, n, m), api.ErrArg)
					expectErr(t, "the same of a new one", locks.New().Ask(who, n, m), api.ErrArg)
					if got := k.Mode(who, n); got != 0 {
						t.Errorf("Mode(%d, %v): %d", who, n, got)
					}
				}
			}
		}
	}
	expect(t, "behind it", shownAll(k), before)
}

// A full table, too, tells first that a name is none, then that who asks waits.
func TestP1301ErrorsInOrder(t *testing.T) {
	k := fullTable(t)
	tell(t, k, "0:X:.?")
	before := shownAll(k)
	for _, m := range []int{api.None, api.IS, api.X, 77, -1} {
		expectErr(t, "no name, and it waits, and it is full", k.Ask(0, api.Name{Deep: 3}, m), api.ErrArg)
		expectErr(t, "no name, and it is full", k.Ask(-1, api.Name{Deep: -1}, m), api.ErrArg)
		expectErr(t, "it waits, and it is full", k.Ask(0, object("new"), m), api.ErrState)
		expectErr(t, "it waits", k.Ask(0, store, m), api.ErrState)
	}
	expectErr(t, "None of a full one", k.Ask(-1, object("new"), api.None), api.OK)
	expectErr(t, "None of a full one", k.Ask(-1, store, api.None), api.OK)
	expectErr(t, "IS of a full one", k.Ask(-1, object("new"), api.IS), api.ErrLocks)
	expect(t, "behind it", shownAll(k), before)
}

func TestP1301WhatIsNotLookedAt(t *testing.T) {
	sames := [][]api.Name{
		{store, {Deep: 0, Object: "a"}, {Deep: 0, Row: "k"}, {Deep: 0, Object: "b", Row: "x"}},
		{object("a"), {Deep: 1, Object: "a", Row: "k"}, {Deep: 1, Object: "a", Row: "a"}},
		{object(""), {Deep: 1, Row: "k"}, {Deep: 1, Row: "a"}},
		{row("a", "k")},
	}
	for _, same := range sames {
		for _, a := range same {
			for _, b := range same {
				k := locks.New()
				expectErr(t, "Ask", k.Ask(1, a, api.S), api.OK)
				expectErr(t, "Ask", k.Ask(1, b, api.S), api.OK)
				if k.Count() != 1 || k.Mode(1, a) != api.S || k.Mode(1, b) != api.S {
					t.Errorf("%v and %v: Count %d, Modes %d and %d", a, b, k.Count(), k.Mode(1, a), k.Mode(1, b))
				}
				expectErr(t, "Ask", k.Ask(2, b, api.X), api.ErrWait)
				if n, ok := k.Waiting(2); !ok || n != same[0] {
					t.Errorf("Waiting for %v is told as %v, %v", b, n, ok)
				}
				expect(t, "granted", fmt.Sprint(k.Free(1)), "[2]")
				if k.Mode(2, a) != api.X || k.Count() != 1 {
					t.Errorf("%v and %v: Mode %d, Count %d", a, b, k.Mode(2, a), k.Count())
				}
			}
		}
	}
}

// All other names have a lock each of its own.
func TestP1301NamesApart(t *testing.T) {
	names := append(someNames(), object("a\x00"), object("a/k"), object("A"), row("a", "k\x00"), row("a\x00", "k"), row("a\x00k", ""), row("k", "a"), object("\xff"), row("\xff", "\xfe"))
	k := locks.New()
	for i, n := range names {
		expectErr(t, fmt.Sprintf("X of %v", n), k.Ask(i, n, api.X), api.OK)
	}
	if k.Count() != len(names) {
		t.Errorf("Count: %d", k.Count())
	}
	for i := range names {
		for m, n := range names {
			if got := k.Mode(i, n); (got == api.X) != (i == m) || i != m && got != 0 {
				t.Errorf("Mode(%d, %v): %d", i, n, got)
			}
		}
	}
	for i, n := range names {
		expectErr(t, "it waits", k.Ask(100+i, n, api.IS), api.ErrWait)
		if got, ok := k.Waiting(100 + i); !ok || got != n {
			t.Errorf("Waiting: %v, %v, not %v", got, ok, n)
		}
	}
	for i, n := range names {
		expect(t, "granted", fmt.Sprint(k.Free(i)), fmt.Sprint([]int{100 + i}))
		if k.Mode(100+i, n) != api.IS || k.Count() != 2*len(names)-i-1 {
			t.Errorf("%v: Mode %d, Count %d", n, k.Mode(100+i, n), k.Count())
		}
	}
}

// Who waits already can ask for nothing, not even for what it holds.
func TestP1301AskOfOneThatWaits(t *testing.T) {
	for _, start := range []string{
		"1:X:a 2:X:a?", "2:S:b 1:X:a 2:IS:a?", "2:IS:a 1:S:a 2:IX:a?", "2:X:. 2:X:b/k 1:S:a/k 3:X:a/k? 2:S:a/k?",
	} {
		k := told(t, start)
		before := shownAll(k)
		for _, n := range someNames() {
			for _, m := range append(append([]int{api.None}, all...), noModes...) {
				expectErr(t, start+", asked again", k.Ask(2, n, m), api.ErrState)
			}
		}
		expect(t, "behind it", shownAll(k), before)
		k.Free(1)
		k.Free(3)
		expectErr(t, start+", granted", k.Ask(2, object("c"), api.X), api.OK)
	}
}

func TestP1301AskNoMode(t *testing.T) {
	for _, start := range []string{"", "1:X:a 2:X:a/k", "1:S:a 2:S:a 1:X:a? 3:X:a?"} {
		k := told(t, start)
		before := shownAll(k)
		for _, who := range []int{2, 4, -1, math.MinInt} {
			for _, n := range someNames() {
				expectErr(t, start+", None", k.Ask(who, n, api.None), api.OK)
			}
		}
		expect(t, start+", behind None", shownAll(k), before)
	}
	k := told(t, "1:S:a")
	k.Ask(2, object("a"), api.None)
	expectErr(t, "who asked for None is in nobody's way", k.Ask(1, object("a"), api.X), api.OK)
}

func TestP1301AskOfTwo(t *testing.T) {
	for _, a := range all {
		for _, b := range all {
			for _, n := range someNames() {
				k := locks.New()
				expectErr(t, "the first one", k.Ask(7, n, a), api.OK)
				want, mode := api.OK, b
				if !modes.Fits(a, b) {
					want, mode = api.ErrWait, api.None
				}
				what := fmt.Sprintf("%s beside %s of %v", modeNames[b], modeNames[a], n)
				expectErr(t, what, k.Ask(3, n, b), want)
				if k.Mode(7, n) != a || k.Mode(3, n) != mode || k.Count() != 2 {
					t.Errorf("%s: Modes %d and %d, Count %d", what, k.Mode(7, n), k.Mode(3, n), k.Count())
				}
				if got, ok := k.Waiting(3); ok != (want == api.ErrWait) || ok && got != n || !ok && got != store {
					t.Errorf("%s: Waiting: %v, %v", what, got, ok)
				}
			}
		}
	}
}

func TestP1301AskMore(t *testing.T) {
	for _, a := range all {
		for _, b := range all {
			k := locks.New()
			k.Ask(1, row("a", "k"), a)
			expectErr(t, "one alone", k.Ask(1, row("a", "k"), b), api.OK)
			if got := k.Mode(1, row("a", "k")); got != modes.Join(a, b) || k.Count() != 1 {
				t.Errorf("%s, then %s: %d, Count %d", modeNames[a], modeNames[b], got, k.Count())
			}
		}
	}
	k := told(t, "1:S:a 2:IS:a 1:X:a?")
	expect(t, "a holder waits", shownAll(k), "1:S:a 1>a 2:IS:a [[1 2]] 2")
	expect(t, "granted", fmt.Sprint(k.Free(2)), "[1]")
	expect(t, "a holder was granted", shownAll(k), "1:X:a [] 1")
	k = told(t, "1:IS:a 2:IS:a 3:X:a? 1:IX:a 2:IS:a")
	expect(t, "holders pass who waits", shownAll(k), "1:IX:a 2:IS:a 3>a [[3 1] [3 2]] 3")
}

func TestP1301OtherNumbersAreX(t *testing.T) {
	for _, m := range noModes {
		k := locks.New()
		expectErr(t, "one alone", k.Ask(1, object("a"), m), api.OK)
		expectErr(t, "another one", k.Ask(2, object("a"), api.IS), api.ErrWait)
		expect(t, fmt.Sprintf("mode %d", m), shownAll(k), "1:X:a 2>a [[2 1]] 2")
		k = told(t, "1:IS:a")
		expectErr(t, "beside IS", k.Ask(2, object("a"), m), api.ErrWait)
		expect(t, "granted", fmt.Sprint(k.Free(1)), "[2]")
		expect(t, fmt.Sprintf("mode %d behind IS", m), shownAll(k), "2:X:a [] 1")
	}
}

func TestP1301AnyWho(t *testing.T) {
	whos := []int{math.MaxInt, 0, -1, math.MinInt, 1 << 40, -1 << 40, 1}
	k := locks.New()
	for i, who := range whos {
		expectErr(t, "Ask", k.Ask(who, row("a", strconv.Itoa(i)), api.X), api.OK)
		expectErr(t, "Ask", k.Ask(who, store, api.IX), api.OK)
	}
	for i, who := range whos {
		for m := range whos {
			if got := k.Mode(who, row("a", strconv.Itoa(m))); (got == api.X) != (i == m) {
				t.Errorf("Mode(%d) of the row of %d: %d", who, whos[m], got)
			}
		}
	}
	for i, who := range whos {
		expectErr(t, "Ask", k.Ask(who, row("a", strconv.Itoa((i+1)%len(whos))), api.S), api.ErrWait)
	}
	want := [][2]int{{math.MinInt, 1 << 40}, {-1 << 40, 1}, {-1, math.MinInt}, {0, -1}, {1, math.MaxInt}, {1 << 40, -1 << 40}, {math.MaxInt, 0}}
	if got := k.Edges(); !slices.Equal(got, want) {
		t.Errorf("Edges: %v, not %v", got, want)
	}
	expect(t, "granted", fmt.Sprint(k.Free(math.MinInt)), "[-1]")
	expect(t, "granted", fmt.Sprint(k.Free(math.MaxInt)), "[1]")
	if k.Count() != 3*len(whos)-6 {
		t.Errorf("Count: %d", k.Count())
	}
}

// fullTable has as many holders as there may be: 0 to 4 of the store, the others
// of a row each.
func fullTable(t *testing.T) *locks.Table {
	t.Helper()
	k := told(t, "0:IS:. 1:IS:. 2:IX:. 3:IS:. 4:IS:.")
	for i := range api.MaxLocks - 5 {
		if got := k.Ask(i%7, row("full", strconv.Itoa(i)), api.S); got != api.OK {
			t.Fatalf("lock %d: %d", i, got)
		}
		if k.Count() != i+6 {
			t.Fatalf("Count behind lock %d: %d", i, k.Count())
		}
	}
	return k
}

func TestP1301Full(t *testing.T) {
	k := fullTable(t)
	if k.Count() != api.MaxLocks {
		t.Fatalf("Count: %d", k.Count())
	}
	before := shownAll(k)
	for _, n := range append(someNames(), row("full", "0"), row("full", "1"), row("full", "new")) {
		for _, m := range append(noModes, all...) {
			expectErr(t, fmt.Sprintf("%d of %v, new here", m, n), k.Ask(9, n, m), api.ErrLocks)
			expectErr(t, fmt.Sprintf("None of %v", n), k.Ask(9, n, api.None), api.OK)
		}
		if n.Deep > 0 && n != row("full", "0") {
			expectErr(t, fmt.Sprintf("IS of %v, new here, a holder elsewhere", n), k.Ask(0, n, api.IS), api.ErrLocks)
		}
	}
	expect(t, "behind it", shownAll(k), before)
	if _, waits := k.Waiting(9); waits || k.Mode(9, store) != 0 || k.Count() != api.MaxLocks {
		t.Error("who was refused is there")
	}
	// who is here already may ask for more, and wait
	expectErr(t, "the same", k.Ask(1, store, api.IS), api.OK)
	expectErr(t, "more", k.Ask(1, store, api.IX), api.OK)
	expectErr(t, "more, alone", k.Ask(0, row("full", "0"), api.X), api.OK)
	expectErr(t, "more, to wait for", k.Ask(0, store, api.X), api.ErrWait)
	if k.Count() != api.MaxLocks {
		t.Errorf("Count behind all that: %d", k.Count())
	}
	// who is out makes room for as many as it had
	had := 1 + (api.MaxLocks-5-5+6)/7
	expect(t, "granted", fmt.Sprint(k.Free(5)), "[]")
	if room := api.MaxLocks - k.Count(); room != had-1 {
		t.Fatalf("room: %d, not %d", room, had-1)
	}
	for i := range had - 1 {
		expectErr(t, "once more", k.Ask(9, row("more", strconv.Itoa(i)), api.X), api.OK)
	}
	expectErr(t, "one too many", k.Ask(9, row("more", "x"), api.X), api.ErrLocks)
}

// Who waits counts as who holds does, be they all of one name.
func TestP1301FullOfOneName(t *testing.T) {
	for holders := 1; holders <= api.MaxLocks; holders += 33 {
		k := locks.New()
		for who := range api.MaxLocks {
			mode, want := api.S, api.OK
			if who >= holders {
				mode, want = api.IX, api.ErrWait
			}
			expectErr(t, "Ask", k.Ask(who, object("a"), mode), want)
		}
		expectErr(t, "one too many", k.Ask(-1, object("a"), api.S), api.ErrLocks)
		expectErr(t, "one too many", k.Ask(-1, object("b"), api.S), api.ErrLocks)
		expectErr(t, "a holder", k.Ask(0, object("a"), api.S), api.OK)
		expectErr(t, "a holder of another one", k.Ask(0, object("b"), api.S), api.ErrLocks)
		if k.Count() != api.MaxLocks {
			t.Errorf("Count: %d", k.Count())
		}
		k.Free(1)
		if k.Count() != api.MaxLocks-1 {
			t.Errorf("Count behind Free: %d", k.Count())
		}
		if got := k.Ask(-1, object("b"), api.S); got != api.OK {
			t.Errorf("behind Free: %d", got)
		}
	}
}

// What is full is one table's own, not who asks.
func TestP1301OneFillsAll(t *testing.T) {
	k := locks.New()
	for i := range api.MaxLocks {
		expectErr(t, "Ask", k.Ask(1, row("a", strconv.Itoa(i)), api.X), api.OK)
	}
	expectErr(t, "one too many of its own", k.Ask(1, row("a", "x"), api.X), api.ErrLocks)
	expectErr(t, "another one", k.Ask(2, row("a", "7"), api.X), api.ErrLocks)
	expectErr(t, "what it has", k.Ask(1, row("a", "7"), api.X), api.OK)
	expect(t, "Free", fmt.Sprint(k.Free(1)), "[]")
	if k.Count() != 0 {
		t.Errorf("Count behind Free: %d", k.Count())
	}
	for i := range api.MaxLocks {
		expectErr(t, "once more", k.Ask(2, row("a", strconv.Itoa(i)), api.X), api.OK)
	}
	expectErr(t, "one too many", k.Ask(2, row("a", "x"), api.X), api.ErrLocks)
}

func TestP1301Free(t *testing.T) {
	for _, c := range []struct {
		asked   string
		who     int
		granted string
		left    string
	}{
		{"", 1, "[]", "[] 0"},
		{"1:X:a", 2, "[]", "1:X:a [] 1"},
		{"1:X:a", 1, "[]", "[] 0"},
		{"1:X:a 1:X:b 1:IX:. 1:X:a/k 2:IX:.", 1, "[]", "2:IX:. [] 1"},
		{"1:X:a 2:S:a?", 1, "[2]", "2:S:a [] 1"},
		{"1:X:a 2:S:a?", 2, "[]", "1:X:a [] 1"},
		{"1:X:a 2:S:a? 3:S:a? 4:X:a? 5:S:a?", 1, "[2 3]", "2:S:a 3:S:a 4>a 5>a [[4 2] [4 3] [5 4]] 4"},
		{"1:X:a 5:S:a? 3:S:a? 4:S:a?", 1, "[5 3 4]", "3:S:a 4:S:a 5:S:a [] 3"},
		{"1:S:a 2:X:a? 3:S:a?", 2, "[3]", "1:S:a 3:S:a [] 2"},
		// who holds and waits is out of both
		{"1:S:a 2:S:a 1:X:a? 3:S:a?", 1, "[3]", "2:S:a 3:S:a [] 2"},
		{"1:S:a 2:S:a 1:X:a? 3:S:a?", 2, "[1]", "1:X:a 3>a [[3 1]] 2"},
		{"1:X:b 1:S:a 2:S:a 1:X:a? 3:S:a? 4:IS:b?", 1, "[3 4]", "2:S:a 3:S:a 4:IS:b [] 3"},
		// where it holds, and where it waits
		{"1:X:a 2:X:b 1:X:b? 3:X:b? 4:X:a?", 1, "[4]", "2:X:b 3>b 4:X:a [[3 2]] 3"},
		{"1:X:b 2:S:c 1:X:c? 3:S:c? 4:X:b? 5:X:b?", 1, "[4 3]", "2:S:c 3:S:c 4:X:b 5>b [[5 4]] 4"},
		// other names stay as they are
		{"1:X:a 2:X:b 3:S:b? 4:S:a?", 1, "[4]", "2:X:b 3>b 4:S:a [[3 2]] 3"},
		{"1:X:a 2:X:b 3:S:b? 4:S:a?", 3, "[]", "1:X:a 2:X:b 4>a [[4 1]] 3"},
	} {
		k := told(t, c.asked)
		what := fmt.Sprintf("%s, Free(%d)", c.asked, c.who)
		expect(t, what, fmt.Sprint(k.Free(c.who)), c.granted)
		expect(t, what+", left", shownAll(k), c.left)
		expect(t, what+", once more", fmt.Sprint(k.Free(c.who)), "[]")
		expect(t, what+", once more, left", shownAll(k), c.left)
	}
}

// Names go by Deep, then Object, then Row, byte by byte: in this order those
// that wait for them are granted, whatever the order in which they came.
func TestP1301FreeByNames(t *testing.T) {
	names := []api.Name{
		store,
		object(""), object("\x00"), object("A"), object("B"), object("a"), object("a\x00"), object("a!"), object("aa"), object("ab"), object("b"), object("é"), object("\xff"),
		row("", ""), row("", "\x00"), row("", "b"), row("", "\xff\xff"), row("\x00", ""), row("A", "z"), row("a", ""), row("a", "10"), row("a", "9"), row("a", "a"), row("a", "ab"), row("a", "b"), row("a", "\xff"), row("a\x00", "a"), row("aa", ""), row("ab", "A"), row("b", ""), row("b", "a"), row("\xff", "\x00"),
	}
	var want []int
	for i := range names {
		want = append(want, 10*i, 10*i+1)
	}
	for seed := range 50 {
		chance := rand.New(rand.NewSource(int64(seed)))
		k := locks.New()
		for _, i := range chance.Perm(len(names)) {
			expectErr(t, "Ask", k.Ask(-1, names[i], api.X), api.OK)
		}
		for _, i := range chance.Perm(len(names)) {
			expectErr(t, "Ask", k.Ask(10*i, names[i], api.S), api.ErrWait)
			expectErr(t, "Ask", k.Ask(10*i+1, names[i], api.S), api.ErrWait)
		}
		if got := k.Free(-1); !slices.Equal(got, want) {
			t.Fatalf("seed %d: %v, not %v", seed, got, want)
		}
	}
}

// In one name those who are granted are told as they waited.
func TestP1301FreeAsTheyWaited(t *testing.T) {
	k := told(t, "9:X:b 9:X:a 7:IS:b? 3:IS:a? 5:IX:b? 1:IS:a? 8:IX:a? 2:IS:b? 4:S:b? 6:S:a?")
	expect(t, "Free(9)", fmt.Sprint(k.Free(9)), "[3 1 8 7 5 2]")
	expect(t, "left", shownAll(k), "1:IS:a 2:IS:b 3:IS:a 4>b 5:IX:b 6>a 7:IS:b 8:IX:a [[4 5] [6 8]] 8")
	expect(t, "Free(8)", fmt.Sprint(k.Free(8)), "[6]")
	k = told(t, "1:IS:a 2:IS:a 3:S:a 2:IX:a? 1:IX:a? 4:IX:a?")
	expect(t, "holders first", fmt.Sprint(k.Free(3)), "[2 1 4]")
}

func TestP1301Mode(t *testing.T) {
	k := told(t, "1:IX:. 1:IX:a 1:SIX:b 1:X:a/k 1:S:a/k 2:IX:. 2:S:b/k 3:S:b? 2:S:.?")
	for _, c := range []struct {
		who  int
		name string
		mode int
	}{
		{1, ".", api.IX}, {1, "a", api.IX}, {1, "b", api.SIX}, {1, "a/k", api.X}, {1, "b/k", 0}, {1, "c", 0},
		// who waits for more has what it has
		{2, ".", api.IX}, {2, "b/k", api.S}, {2, "a", 0}, {2, "b", 0},
		// who waits alone has nothing
		{3, ".", 0}, {3, "b", 0}, {4, ".", 0}, {0, ".", 0},
	} {
		if got := k.Mode(c.who, nameOf(c.name)); got != c.mode {
			t.Errorf("Mode(%d, %s): %d, not %d", c.who, c.name, got, c.mode)
		}
	}
}

func TestP1301Waiting(t *testing.T) {
	k := told(t, "1:X:. 1:S:a 1:X:b/k 2:S:a 2:X:a? 3:IS:.? 4:S:c 4:X:a? 5:S:b/k? 6:S:b/k?")
	for who, want := range []string{"", "", "a", ".", "a", "b/k", "b/k", ""} {
		n, ok := k.Waiting(who)
		if ok != (want != "") || ok && n != nameOf(want) || !ok && n != (api.Name{}) {
			t.Errorf("Waiting(%d): %v, %v, not %q", who, n, ok, want)
		}
	}
	k.Free(1)
	for who, want := range []string{"", "", "", "", "a", "", "", ""} {
		n, ok := k.Waiting(who)
		if ok != (want != "") || ok && n != nameOf(want) || !ok && n != (api.Name{}) {
			t.Errorf("behind Free, Waiting(%d): %v, %v, not %q", who, n, ok, want)
		}
	}
}

func TestP1301Edges(t *testing.T) {
	for _, c := range []struct{ asked, want string }{
		{"1:X:a 2:X:b 3:X:.", "[]"},
		{"1:X:a 2:X:a?", "[[2 1]]"},
		{"2:X:a 1:X:a?", "[[1 2]]"},
		{"1:X:a 2:X:b 1:S:b? 2:S:a?", "[[1 2] [2 1]]"},
		{"1:S:a 2:S:a 1:X:a? 2:X:a?", "[[1 2] [2 1]]"},
		// of one that waits, all that it waits for, rising
		{"9:S:a 5:S:a 7:S:a 1:X:a?", "[[1 5] [1 7] [1 9]]"},
		{"9:S:a 5:S:a 7:S:a 5:X:a?", "[[5 7] [5 9]]"},
		{"8:IS:a 2:IX:a 5:S:a? 4:IS:a? 3:X:a?", "[[3 2] [3 4] [3 5] [3 8] [4 5] [5 2]]"},
		// once, who is in the way and ahead in the line
		{"1:IX:a 2:IS:a 1:S:a 2:IX:a? 3:X:a?", "[[2 1] [3 1] [3 2]]"},
		// once, who is in the way of one name and holds others
		{"1:X:a 1:X:b 1:X:. 2:S:a? 3:S:b? 4:S:.?", "[[2 1] [3 1] [4 1]]"},
		// over all names, rising by who, not by names
		{"1:X:b/k 2:X:a 3:X:. 9:S:.? 8:S:a? 7:S:b/k?", "[[7 1] [8 2] [9 3]]"},
		{"9:X:b 8:X:a 7:X:. 2:S:.? 1:S:b? 3:S:a?", "[[1 9] [2 7] [3 8]]"},
		// numbers, not texts
		{"10:S:a 9:S:a -1:S:a -10:S:a 100:S:a 11:X:a?", "[[11 -10] [11 -1] [11 9] [11 10] [11 100]]"},
		{"1:X:a 10:S:a? 9:S:a? -2:S:a? -3:S:a?", "[[-3 -2] [-3 1] [-3 9] [-3 10] [-2 1] [-2 9] [-2 10] [9 1] [9 10] [10 1]]"},
	} {
		k := told(t, c.asked)
		expect(t, c.asked, fmt.Sprint(k.Edges()), c.want)
		expect(t, c.asked+", again", fmt.Sprint(k.Edges()), c.want)
	}
}

func TestP1301Count(t *testing.T) {
	for _, c := range []struct {
		asked string
		want  int
	}{
		{"", 0},
		{"1:X:a", 1},
		{"1:S:a 1:X:a 1:IS:a", 1},
		{"1:S:a 1:S:b 1:S:. 1:S:a/k", 4},
		{"1:S:a 2:S:a 3:S:a", 3},
		{"1:S:a 2:X:a?", 2},
		{"1:S:a 2:S:a 1:X:a?", 2},
		{"1:S:a 2:S:a 1:X:a? 2:X:a? 3:IS:a? 4:IS:.", 4},
	} {
		k := told(t, c.asked)
		if got := k.Count(); got != c.want {
			t.Errorf("%s: Count %d, not %d", c.asked, got, c.want)
		}
	}
	k := told(t, "1:S:a 2:S:a 1:X:a?")
	expect(t, "granted", fmt.Sprint(k.Free(2)), "[1]")
	if k.Count() != 1 {
		t.Errorf("who was granted counts once: %d", k.Count())
	}
}

// plain is a table as the chapter's words have it.
type plain struct{ locks map[api.Name]*grant.Lock }

func newPlain() *plain { return &plain{map[api.Name]*grant.Lock{}} }

func (p *plain) names() []api.Name {
	var l []api.Name
	for n := range p.locks {
		l = append(l, n)
	}
	slices.SortFunc(l, func(a, b api.Name) int {
		if a.Deep != b.Deep {
			return a.Deep - b.Deep
		}
		if a.Object != b.Object {
			return bytes.Compare([]byte(a.Object), []byte(b.Object))
		}
		return bytes.Compare([]byte(a.Row), []byte(b.Row))
	})
	return l
}

func (p *plain) count() int {
	n := 0
	for _, l := range p.locks {
		n += len(l.Holds())
	}
	return n
}

func (p *plain) hold(who int, n api.Name) api.Hold {
	if l := p.locks[n]; l != nil {
		for _, h := range l.Holds() {
			if h.Who == who {
				return h
			}
		}
	}
	return api.Hold{}
}

func (p *plain) waiting(who int) (api.Name, bool) {
	for n := range p.locks {
		if p.hold(who, n).Wants != api.None {
			return n, true
		}
	}
	return api.Name{}, false
}

func (p *plain) ask(who int, n api.Name, mode int) api.Errno {
	if n.Deep < 0 || n.Deep > 2 {
		return api.ErrArg
	}
	if n.Deep < 2 {
		n.Row = ""
	}
	if n.Deep < 1 {
		n.Object = ""
	}
	if _, waits := p.waiting(who); waits {
		return api.ErrState
	}
	if mode == api.None {
		return api.OK
	}
	if p.hold(who, n) == (api.Hold{}) && p.count() >= api.MaxLocks {
		return api.ErrLocks
	}
	if p.locks[n] == nil {
		p.locks[n] = &grant.Lock{}
	}
	if p.locks[n].Ask(who, mode) {
		return api.OK
	}
	return api.ErrWait
}

func (p *plain) free(who int) []int {
	var granted []int
	for _, n := range p.names() {
		granted = append(granted, p.locks[n].Drop(who)...)
	}
	return granted
}

// edges are those of all whos, which must rise.
func (p *plain) edges(whos []int) [][2]int {
	var l [][2]int
	for _, who := range whos {
		if n, waits := p.waiting(who); waits {
			for _, other := range p.locks[n].Waits(who) {
				l = append(l, [2]int{who, other})
			}
		}
	}
	return l
}

// shown is what shown is of a table.
func (p *plain) shown(whos []int, names []api.Name) string {
	var b strings.Builder
	for _, who := range whos {
		for _, n := range names {
			if m := p.hold(who, n).Mode; m != api.None {
				fmt.Fprintf(&b, "%d:%s:%s ", who, modeNames[m], textOf(n))
			}
		}
		if n, waits := p.waiting(who); waits {
			fmt.Fprintf(&b, "%d>%s ", who, textOf(n))
		}
	}
	return b.String() + fmt.Sprint(p.edges(whos), " ", p.count())
}

// said is what a deed answers, as a text.
func said(k *locks.Table, d deed) string {
	if d.mode == free {
		return fmt.Sprint(k.Free(d.who))
	}
	return fmt.Sprint(k.Ask(d.who, d.name, d.mode))
}

func saidPlainly(p *plain, d deed) string {
	if d.mode == free {
		return fmt.Sprint(p.free(d.who))
	}
	return fmt.Sprint(p.ask(d.who, d.name, d.mode))
}

// fitEachOther looks for holders of a name that may not stand side by side.
func fitEachOther(t *testing.T, k *locks.Table, whos []int, names []api.Name) {
	t.Helper()
	for _, n := range names {
		for i, a := range whos {
			for _, b := range whos[:i] {
				if !modes.Fits(k.Mode(a, n), k.Mode(b, n)) {
					t.Fatalf("%v: %d and %d have it in %d and %d", n, a, b, k.Mode(a, n), k.Mode(b, n))
				}
			}
		}
	}
}

func TestP1301AllShortRuns(t *testing.T) {
	whos, names := []int{1, 2, 3}, []api.Name{object("a"), row("a", "k")}
	var deeds []deed
	for _, who := range whos {
		for _, n := range names {
			for _, m := range []int{api.IS, api.S, api.X} {
				deeds = append(deeds, deed{who, n, m})
			}
		}
		deeds = append(deeds, deed{who, store, free})
	}
	run := make([]deed, 4)
	for n := range len(deeds) * len(deeds) * len(deeds) * len(deeds) {
		k, p := locks.New(), newPlain()
		for i := range run {
			run[i] = deeds[n%len(deeds)]
			n /= len(deeds)
			if got, want := said(k, run[i]), saidPlainly(p, run[i]); got != want {
				t.Fatalf("%v: %s, not %s", run[:i+1], got, want)
			}
		}
		if got, want := shown(k, whos, names), p.shown(whos, names); got != want {
			t.Fatalf("behind %v: %s, not %s", run, got, want)
		}
	}
}

func TestP1302LongRuns(t *testing.T) {
	whos := []int{math.MinInt, -1, 0, 1, 2, 3, 7, math.MaxInt}
	asked := append(someNames(), api.Name{Object: "a", Row: "k"}, api.Name{Deep: 1, Object: "a", Row: "k"}, api.Name{Deep: 3, Object: "a"}, api.Name{Deep: -1})
	weights := slices.Concat([]int{api.None, free, free}, all, all, all, noModes[:2])
	for seed := range 60 {
		chance := rand.New(rand.NewSource(int64(seed)))
		some, few := whos[:2+seed%(len(whos)-1)], 1+seed%len(asked)
		chance.Shuffle(len(asked), func(i, j int) { asked[i], asked[j] = asked[j], asked[i] })
		k, p := locks.New(), newPlain()
		for range 400 {
			d := deed{some[chance.Intn(len(some))], asked[chance.Intn(few)], weights[chance.Intn(len(weights))]}
			if got, want := said(k, d), saidPlainly(p, d); got != want {
				t.Fatalf("seed %d: %v: %s, not %s", seed, d, got, want)
			}
			if got, want := shown(k, whos, someNames()), p.shown(whos, someNames()); got != want {
				t.Fatalf("seed %d: behind %v: %s, not %s", seed, d, got, want)
			}
			fitEachOther(t, k, some, someNames())
		}
	}
}

// Many who seldom are freed come to as many locks as there may be.
func TestP1302LongRunsOfFullOnes(t *testing.T) {
	var whos []int
	for who := range 40 {
		whos = append(whos, who)
	}
	weights := append(slices.Repeat([]int{api.IS}, 40), api.IX, api.IX, api.S)
	refused, waited := 0, 0
	for seed := range 4 {
		chance := rand.New(rand.NewSource(int64(100 + seed)))
		k, p := locks.New(), newPlain()
		for i := range 1200 {
			d := deed{chance.Intn(len(whos)), someNames()[chance.Intn(len(someNames()))], weights[chance.Intn(len(weights))]}
			if chance.Intn(40) == 0 {
				d.mode = free
			}
			got, want := said(k, d), saidPlainly(p, d)
			if got != want {
				t.Fatalf("seed %d: %v: %s, not %s", seed, d, got, want)
			}
			switch got {
			case fmt.Sprint(api.ErrLocks):
				refused++
			case fmt.Sprint(api.ErrWait):
				waited++
			}
			if k.Count() > api.MaxLocks || k.Count() != p.count() {
				t.Fatalf("seed %d: Count %d, not %d", seed, k.Count(), p.count())
			}
			if i%40 > 0 {
				continue
			}
			if got, want := shown(k, whos, someNames()), p.shown(whos, someNames()); got != want {
				t.Fatalf("seed %d: behind %v: %s, not %s", seed, d, got, want)
			}
			fitEachOther(t, k, whos, someNames())
		}
	}
	if refused < 100 || waited < 100 {
		t.Errorf("ErrLocks was met %d times, ErrWait %d times", refused, waited)
	}
}

func TestP1302TwoTables(t *testing.T) {
	a, b := locks.New(), locks.New()
	tell(t, a, "1:X:a 2:S:a?")
	tell(t, b, "2:X:a 1:S:b 3:X:a?")
	expect(t, "a", shownAll(a), "1:X:a 2>a [[2 1]] 2")
	expect(t, "b", shownAll(b), "1:S:b 2:X:a 3>a [[3 2]] 3")
	expect(t, "Free of b", fmt.Sprint(b.Free(1), b.Free(2)), "[] [3]")
	expect(t, "a", shownAll(a), "1:X:a 2>a [[2 1]] 2")
	full := fullTable(t)
	expectErr(t, "beside a full one", a.Ask(1, object("b"), api.X), api.OK)
	expectErr(t, "a full one", full.Ask(1, object("b"), api.X), api.ErrLocks)
}

// A table that is copied as a value goes its own way, whichever of the two
// turns first.
func TestP1302Copies(t *testing.T) {
	starts := []string{"", "1:S:a", "1:X:a 2:S:a? 3:S:a? 1:X:b 4:S:b?", "1:S:a 2:S:a 1:X:a? 3:IS:a/k 4:X:. 5:S:.?"}
	var deeds []deed
	for _, who := range []int{1, 2, 4, 8} {
		for _, n := range []api.Name{store, object("a"), object("c"), row("a", "k")} {
			deeds = append(deeds, deed{who, n, api.S}, deed{who, n, api.X})
		}
		deeds = append(deeds, deed{who, store, free})
	}
	for _, start := range starts {
		for _, d := range deeds {
			for _, e := range deeds {
				a := told(t, start)
				b := *a
				p, q := told(t, start), told(t, start)
				expect(t, "a", said(a, d), said(p, d))
				expect(t, "b", said(&b, e), said(q, e))
				expect(t, "a", said(a, e), said(p, e))
				expect(t, "a", shownAll(a), shownAll(p))
				expect(t, "b", shownAll(&b), shownAll(q))
			}
		}
	}
}

// One that New did not make is a new one, too.
func TestP1302Declared(t *testing.T) {
	var k locks.Table
	expect(t, "declared", shownAll(&k), "[] 0")
	expect(t, "Free", fmt.Sprint(k.Free(1)), "[]")
	tell(t, &k, "1:X:a 2:S:a?")
	expect(t, "asked", shownAll(&k), "1:X:a 2>a [[2 1]] 2")
}

func TestP1302Nil(t *testing.T) {
	var k *locks.Table
	for _, who := range []int{0, 1, -1} {
		for _, n := range append(someNames(), api.Name{Deep: 3}, api.Name{Deep: -1}) {
			for m := -1; m < 7; m++ {
				expectErr(t, "Ask of nil", k.Ask(who, n, m), api.ErrState)
			}
			if k.Mode(who, n) != 0 {
				t.Error("nil has a holder")
			}
		}
		if n, ok := k.Waiting(who); ok || n != (api.Name{}) || k.Free(who) != nil {
			t.Error("nil has somebody")
		}
	}
	if k.Edges() != nil || k.Count() != 0 {
		t.Error("nil has locks")
	}
}

// What was answered is the caller's: to write into it, and into its spare room,
// turns nothing.
func TestP1302NewMemory(t *testing.T) {
	k := told(t, "9:X:a 9:X:b 1:S:a? 2:S:a? 3:S:b? 4:X:c 5:S:c? 6:S:c?")
	granted := k.Free(9)
	expect(t, "granted", fmt.Sprint(granted), "[1 2 3]")
	for i := range granted[:cap(granted)] {
		granted[:cap(granted)][i] = 77
	}
	want := "1:S:a 2:S:a 3:S:b 4:X:c 5>c 6>c [[5 4] [6 4] [6 5]] 6"
	expect(t, "behind it", shownAll(k), want)
	edges, others := k.Edges(), k.Edges()
	for i := range edges[:cap(edges)] {
		edges[:cap(edges)][i] = [2]int{77, 77}
	}
	expect(t, "the other answer", fmt.Sprint(others), "[[5 4] [6 4] [6 5]]")
	expect(t, "the table", shownAll(k), want)
	k.Free(4)
	tell(t, k, "7:X:c?")
	expect(t, "what was answered ahead", fmt.Sprint(others), "[[5 4] [6 4] [6 5]]")
}

// Names that are freed are not kept.
func TestP1302FreedNamesAreGone(t *testing.T) {
	k := locks.New()
	used := func() uint64 {
		var m runtime.MemStats
		runtime.GC()
		runtime.ReadMemStats(&m)
		return m.HeapAlloc
	}
	before := used()
	for i := range 400 {
		n := object(strings.Repeat("x", 1<<18) + strconv.Itoa(i))
		k.Ask(1, n, api.X)
		k.Ask(2, n, api.S)
		k.Free(1)
		k.Free(2)
	}
	if after := used(); after > before+1<<24 {
		t.Errorf("%d bytes are kept", after-before)
	}
	expect(t, "the table", shownAll(k), "[] 0")
}

func TestP1302HangsOnWhatItWasToldAlone(t *testing.T) {
	run := func() string {
		var b strings.Builder
		k := locks.New()
		chance := rand.New(rand.NewSource(5))
		for range 400 {
			d := deed{chance.Intn(6), someNames()[chance.Intn(len(someNames()))], all[chance.Intn(len(all))]}
			if chance.Intn(8) == 0 {
				d.mode = free
			}
			b.WriteString(said(k, d) + shownAll(k))
		}
		return b.String()
	}
	want := run()
	got := make([]string, 8)
	var done sync.WaitGroup
	for i := range got {
		done.Go(func() { got[i] = run() })
	}
	done.Wait()
	for i := range got {
		if got[i] != want {
			t.Errorf("run %d is another one", i)
		}
	}
}
