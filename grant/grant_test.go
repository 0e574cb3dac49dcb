package grant_test

import (
	"fmt"
	"math"
	"math/rand"
	"slices"
	"strconv"
	"strings"
	"sync"
	"testing"

	"poste/api"
	"poste/grant"
)

// all are the modes in which a lock may be held.
var all = []int{api.IS, api.IX, api.S, api.SIX, api.X}

// others are numbers that are no mode.
var others = []int{-1, 6, -5, 7, 1 << 8, 1<<32 + api.IS, -1 << 32, math.MaxInt32, math.MaxInt, math.MinInt}

var names = []string{"None", "IS", "IX", "S", "SIX", "X"}

// fitting tells, by number, which modes each one fits.
var fitting = []string{"None IS IX S SIX X", "None IS IX S SIX", "None IS IX", "None IS S", "None IS", "None"}

// joined are the least modes that cover both, by number.
var joined = []string{"012345", "112345", "222445", "334345", "444445", "555555"}

func fit(a, b int) bool { return slices.Contains(strings.Fields(fitting[a]), names[b]) }

func join(a, b int) int { return int(joined[a][b] - '0') }

// plain is a lock as the chapter's words have it: two lists of those that wait,
// and maps of what is held and wanted.
type plain struct {
	holders, waitingHolders, comers []int
	mode, wants                     map[int]int
}

func newPlain() *plain { return &plain{mode: map[int]int{}, wants: map[int]int{}} }

func (p *plain) line() []int { return slices.Concat(p.waitingHolders, p.comers) }

func (p *plain) fitsAllOthers(who, mode int) bool {
	for _, h := range p.holders {
		if h != who && !fit(p.mode[h], mode) {
			return false
		}
	}
	return true
}

func (p *plain) ask(who, mode int) bool {
	if mode < 0 || mode > 5 {
		mode = api.X
	}
	if mode == api.None {
		return true
	}
	if p.wants[who] != 0 {
		return false
	}
	holds := slices.Contains(p.holders, who)
	if holds && join(p.mode[who], mode) == p.mode[who] {
		return true
	}
	if holds {
		mode = join(p.mode[who], mode)
	}
	switch {
	case p.fitsAllOthers(who, mode) && holds:
		p.mode[who] = mode
		return true
	case p.fitsAllOthers(who, mode) && len(p.line()) == 0:
		p.holders = append(p.holders, who)
		p.mode[who] = mode
		return true
	case holds:
		p.waitingHolders = append(p.waitingHolders, who)
	default:
		p.comers = append(p.comers, who)
	}
	p.wants[who] = mode
	return false
}

func (p *plain) drop(who int) []int {
	is := func(w int) bool { return w == who }
	p.holders = slices.DeleteFunc(p.holders, is)
	p.waitingHolders = slices.DeleteFunc(p.waitingHolders, is)
	p.comers = slices.DeleteFunc(p.comers, is)
	delete(p.mode, who)
	delete(p.wants, who)
	var granted []int
	for len(p.line()) > 0 {
		w := p.line()[0]
		if !p.fitsAllOthers(w, p.wants[w]) {
			break
		}
		if len(p.waitingHolders) > 0 {
			p.waitingHolders = p.waitingHolders[1:]
		} else {
			p.comers = p.comers[1:]
			p.holders = append(p.holders, w)
		}
		p.mode[w] = p.wants[w]
		delete(p.wants, w)
		granted = append(granted, w)
	}
	return granted
}

func (p *plain) holds() []api.Hold {
	var l []api.Hold
	for _, w := range slices.Concat(p.holders, p.comers) {
		l = append(l, api.Hold{Who: w, Mode: p.mode[w], Wants: p.wants[w]})
	}
	return l
}

func (p *plain) waits(who int) []int {
	at := slices.Index(p.line(), who)
	if at < 0 {
		return nil
	}
	seen := map[int]bool{}
	for _, w := range p.line()[:at] {
		seen[w] = true
	}
	for _, h := range p.holders {
		if h != who && !fit(p.mode[h], p.wants[who]) {
			seen[h] = true
		}
	}
	var l []int
	for w := range seen {
		l = append(l, w)
	}
	slices.Sort(l)
	return l
}

// deed is an Ask of who, or a Drop if the mode is drop.
type deed struct{ who, mode int }

const drop = 1000

// said is what a deed answers, as a text.
func said(l *grant.Lock, d deed) string {
	if d.mode == drop {
		return fmt.Sprint(l.Drop(d.who))
	}
	return fmt.Sprint(l.Ask(d.who, d.mode))
}

func saidPlainly(p *plain, d deed) string {
	if d.mode == drop {
		return fmt.Sprint(p.drop(d.who))
	}
	return fmt.Sprint(p.ask(d.who, d.mode))
}

// shown is a lock as a text: of each holder its mode, and the one it waits for
// behind it; behind a bar those that only wait.
func shown(l *grant.Lock) string {
	var b strings.Builder
	for _, h := range l.Holds() {
		if h.Mode == api.None {
			b.WriteString("| ")
		}
		b.WriteString(strconv.Itoa(h.Who) + ":")
		if h.Mode != api.None {
			b.WriteString(names[h.Mode])
		}
		if h.Wants != api.None {
			b.WriteString(">" + names[h.Wants])
		}
		b.WriteString(" ")
	}
	return strings.TrimSpace(b.String())
}

// asked answers a new lock of which all that was asked, one by one.
func asked(l ...deed) *grant.Lock {
	k := &grant.Lock{}
	for _, d := range l {
		k.Ask(d.who, d.mode)
	}
	return k
}

func expect(t *testing.T, what, got, want string) {
	t.Helper()
	if got != want {
		t.Errorf("%s: %q, not %q", what, got, want)
	}
}

func TestP1101AskOfANewOne(t *testing.T) {
	for _, m := range all {
		for _, who := range []int{1, 0, -1, math.MaxInt, math.MinInt} {
			var l grant.Lock
			if !l.Ask(who, m) {
				t.Errorf("Ask(%d, %s) of a new one: false", who, names[m])
			}
			if got := l.Holds(); len(got) != 1 || got[0] != (api.Hold{Who: who, Mode: m}) {
				t.Errorf("behind Ask(%d, %s): %v", who, names[m], got)
			}
		}
	}
}

func TestP1101AskNoMode(t *testing.T) {
	l := asked()
	if !l.Ask(1, api.None) {
		t.Error("None of a new one: false")
	}
	expect(t, "None of a new one", shown(l), "")
	l = asked(deed{1, api.S}, deed{2, api.IS}, deed{1, api.X}, deed{3, api.X})
	before := shown(l)
	expect(t, "before", before, "1:S>X 2:IS | 3:>X")
	for who := range 6 {
		if !l.Ask(who, api.None) {
			t.Errorf("None of %d: false", who)
		}
		expect(t, "behind None", shown(l), before)
	}
}

func TestP1101AskOfOneThatWaits(t *testing.T) {
	l := asked(deed{1, api.S}, deed{2, api.IS}, deed{1, api.X}, deed{3, api.IX}, deed{4, api.IS})
	before := shown(l)
	expect(t, "before", before, "1:S>X 2:IS | 3:>IX | 4:>IS")
	for _, who := range []int{1, 3, 4} {
		for _, m := range append(all, others...) {
			if l.Ask(who, m) {
				t.Errorf("Ask(%d, %d): true, but it waits", who, m)
			}
			expect(t, "behind it", shown(l), before)
		}
	}
}

func TestP1101AskOfWhatItHasAlready(t *testing.T) {
	for _, has := range all {
		for _, m := range all {
			if join(has, m) != has {
				continue
			}
			l := asked(deed{1, has}, deed{2, api.X})
			before := shown(l)
			if !l.Ask(1, m) {
				t.Errorf("%s is asked of one that has %s: false", names[m], names[has])
			}
			expect(t, "behind it", shown(l), before)
		}
	}
}

func TestP1101AskOfTwo(t *testing.T) {
	for _, a := range all {
		for _, b := range all {
			l := asked(deed{7, a})
			want := "7:" + names[a] + " 3:" + names[b]
			if !fit(a, b) {
				want = "7:" + names[a] + " | 3:>" + names[b]
			}
			if got := l.Ask(3, b); got != fit(a, b) {
				t.Errorf("%s beside %s: %v", names[b], names[a], got)
			}
			expect(t, names[b]+" beside "+names[a], shown(l), want)
		}
	}
}

func TestP1101AskMore(t *testing.T) {
	for _, a := range all {
		for _, b := range all {
			l := asked(deed{1, a})
			if !l.Ask(1, b) {
				t.Errorf("%s, then %s of one alone: false", names[a], names[b])
			}
			expect(t, names[a]+", then "+names[b], shown(l), "1:"+names[join(a, b)])
		}
	}
}

func TestP1101AskMoreBesideAnother(t *testing.T) {
	for _, a := range all {
		for _, b := range all {
			for _, c := range all {
				if !fit(a, c) {
					continue
				}
				l := asked(deed{1, a}, deed{2, c})
				more := join(a, b)
				want := "1:" + names[more] + " 2:" + names[c]
				granted := more == a || fit(more, c)
				if !granted {
					want = "1:" + names[a] + ">" + names[more] + " 2:" + names[c]
				}
				if got := l.Ask(1, b); got != granted {
					t.Errorf("%s has %s and asks for %s beside %s: %v", "1", names[a], names[b], names[c], got)
				}
				expect(t, names[a]+" and "+names[b]+" beside "+names[c], shown(l), want)
			}
		}
	}
}

// Who holds nothing waits behind all that wait, also where it would fit; a
// holder does not.
func TestP1101AskWhereSomebodyWaits(t *testing.T) {
	l := asked(deed{1, api.S}, deed{2, api.S}, deed{3, api.X})
	if l.Ask(4, api.S) {
		t.Error("S goes past X that waits")
	}
	expect(t, "S behind X", shown(l), "1:S 2:S | 3:>X | 4:>S")
	l = asked(deed{1, api.IS}, deed{2, api.IS}, deed{3, api.X})
	if !l.Ask(1, api.IX) || !l.Ask(2, api.IX) {
		t.Error("a holder waits for one that holds nothing")
	}
	expect(t, "holders ask for IX", shown(l), "1:IX 2:IX | 3:>X")
	l = asked(deed{1, api.IS}, deed{2, api.S}, deed{3, api.IS}, deed{1, api.IX})
	if !l.Ask(3, api.S) {
		t.Error("a holder waits for a holder that waits")
	}
	expect(t, "a holder passes a holder", shown(l), "1:IS>IX 2:S 3:S")
}

// The line is told by Waits, for X waits for all that are ahead of it.
func TestP1101PlacesInTheLine(t *testing.T) {
	l := asked(deed{1, api.IS}, deed{2, api.IS}, deed{3, api.IS}, deed{4, api.S})
	for _, d := range []deed{{5, api.IX}, {6, api.X}, {2, api.IX}, {7, api.IS}, {1, api.IX}, {3, api.X}, {8, api.S}} {
		if l.Ask(d.who, d.mode) {
			t.Errorf("Ask(%d, %s): true", d.who, names[d.mode])
		}
	}
	expect(t, "all", shown(l), "1:IS>IX 2:IS>IX 3:IS>X 4:S | 5:>IX | 6:>X | 7:>IS | 8:>S")
	for _, c := range []struct {
		who  int
		want string
	}{
		{2, "[4]"}, {1, "[2 4]"}, {3, "[1 2 4]"}, {5, "[1 2 3 4]"}, {6, "[1 2 3 4 5]"},
		{7, "[1 2 3 5 6]"}, {8, "[1 2 3 5 6 7]"}, {4, "[]"}, {9, "[]"},
	} {
		expect(t, fmt.Sprintf("Waits(%d)", c.who), fmt.Sprint(l.Waits(c.who)), c.want)
	}
	expect(t, "Drop(4)", fmt.Sprint(l.Drop(4)), "[2 1]")
	expect(t, "behind Drop(4)", shown(l), "1:IX 2:IX 3:IS>X | 5:>IX | 6:>X | 7:>IS | 8:>S")
	expect(t, "Drop(3)", fmt.Sprint(l.Drop(3)), "[5]")
	expect(t, "Drop(2)", fmt.Sprint(l.Drop(2)), "[]")
	expect(t, "Drop(1)", fmt.Sprint(l.Drop(1)), "[]")
	expect(t, "Drop(5)", fmt.Sprint(l.Drop(5)), "[6]")
	expect(t, "Drop(6)", fmt.Sprint(l.Drop(6)), "[7 8]")
	expect(t, "at the end", shown(l), "7:IS 8:S")
}

func TestP1101OtherNumbersAreX(t *testing.T) {
	for _, m := range others {
		l := asked()
		if !l.Ask(1, m) || !l.Ask(1, m) || !l.Ask(1, api.X) || !l.Ask(1, api.IS) {
			t.Errorf("mode %d of one alone: false", m)
		}
		expect(t, fmt.Sprintf("mode %d", m), shown(l), "1:X")
		l = asked(deed{1, api.IS})
		if l.Ask(2, m) {
			t.Errorf("mode %d fits IS", m)
		}
		expect(t, fmt.Sprintf("mode %d beside IS", m), shown(l), "1:IS | 2:>X")
		l = asked(deed{1, api.IS}, deed{2, api.IS})
		if l.Ask(2, m) {
			t.Errorf("mode %d of a holder fits IS", m)
		}
		expect(t, fmt.Sprintf("mode %d of a holder", m), shown(l), "1:IS 2:IS>X")
		expect(t, "Drop(1)", fmt.Sprint(l.Drop(1)), "[2]")
		expect(t, "behind it", shown(l), "2:X")
		l = asked(deed{1, api.S})
		if !l.Ask(1, m) {
			t.Errorf("S, then mode %d: false", m)
		}
		expect(t, fmt.Sprintf("S, then mode %d", m), shown(l), "1:X")
	}
}

func TestP1102Drop(t *testing.T) {
	for _, c := range []struct {
		asked   string // of each: who:mode
		who     int
		granted string
		left    string
	}{
		{"", 1, "[]", ""},
		{"1:X", 2, "[]", "1:X"},
		{"1:X", 1, "[]", ""},
		{"1:X 2:S", 1, "[2]", "2:S"},
		{"1:X 2:S", 2, "[]", "1:X"},
		{"1:X 2:S", 3, "[]", "1:X | 2:>S"},
		{"1:X 2:S 3:S 4:IS 5:IX 6:IS", 1, "[2 3 4]", "2:S 3:S 4:IS | 5:>IX | 6:>IS"},
		{"1:X 9:IS 2:IX 7:S 3:IS", 1, "[9 2]", "9:IS 2:IX | 7:>S | 3:>IS"},
		{"1:S 2:X 3:S", 2, "[3]", "1:S 3:S"},
		{"1:S 2:X 3:S", 3, "[]", "1:S | 2:>X"},
		{"1:S 2:X 3:S 4:X 5:S", 2, "[3]", "1:S 3:S | 4:>X | 5:>S"},
		{"1:S 2:S 3:X", 1, "[]", "2:S | 3:>X"},
		{"1:S 2:S 1:X", 2, "[1]", "1:X"},
		{"1:S 2:S 1:X", 1, "[]", "2:S"},
		{"1:S 2:S 1:X 3:S", 1, "[3]", "2:S 3:S"},
		{"1:S 2:S 1:X 3:S", 2, "[1]", "1:X | 3:>S"},
		{"1:S 2:S 1:X 2:X", 2, "[1]", "1:X"},
		{"1:S 2:S 1:X 2:X", 1, "[2]", "2:X"},
		{"1:S 2:S 3:IX 1:IX", 2, "[1]", "1:SIX | 3:>IX"},
		{"1:S 2:S 3:IS 3:IX 1:IX", 1, "[]", "2:S 3:IS>IX"},
		{"1:S 2:IS 3:IS 2:IX 3:IX", 1, "[2 3]", "2:IX 3:IX"},
		{"1:S 2:IS 3:IS 3:IX 2:IX 4:IX", 1, "[3 2 4]", "2:IX 3:IX 4:IX"},
		{"1:IX 2:IS 2:S 3:IS 4:S", 1, "[2 3 4]", "2:S 3:IS 4:S"},
		{"1:SIX 2:IS 2:IX 3:IS", 1, "[2 3]", "2:IX 3:IS"},
	} {
		l := asked(readDeeds(t, c.asked)...)
		what := fmt.Sprintf("%s, Drop(%d)", c.asked, c.who)
		expect(t, what, fmt.Sprint(l.Drop(c.who)), c.granted)
		expect(t, what+", left", shown(l), c.left)
	}
}

// readDeeds reads what is asked, written as 1:S.
func readDeeds(t *testing.T, text string) []deed {
	t.Helper()
	var l []deed
	for _, f := range strings.Fields(text) {
		who, mode, _ := strings.Cut(f, ":")
		w, err := strconv.Atoi(who)
		if err != nil || slices.Index(names, mode) < 0 {
			t.Fatalf("no deed: %s", f)
		}
		l = append(l, deed{w, slices.Index(names, mode)})
	}
	return l
}

func TestP1102WhoWasDroppedComesAnew(t *testing.T) {
	l := asked(deed{1, api.SIX}, deed{2, api.IS})
	l.Drop(1)
	if !l.Ask(1, api.IS) {
		t.Error("Ask behind Drop: false")
	}
	expect(t, "behind it", shown(l), "2:IS 1:IS")
	l = asked(deed{1, api.X}, deed{2, api.S}, deed{3, api.S})
	l.Drop(2)
	if l.Ask(2, api.IS) {
		t.Error("Ask of one that was dropped from the line: true")
	}
	expect(t, "behind it", shown(l), "1:X | 3:>S | 2:>IS")
	if got := l.Drop(2); len(got) != 0 {
		t.Errorf("Drop of the last: %v", got)
	}
	if got := l.Drop(2); len(got) != 0 {
		t.Errorf("Drop once more: %v", got)
	}
}

// A holder that is granted more stays where it is among the holders.
func TestP1102HoldersStandAsTheyCame(t *testing.T) {
	l := asked(deed{3, api.IS}, deed{1, api.IS}, deed{2, api.IS}, deed{1, api.IX}, deed{3, api.IX})
	expect(t, "asked", shown(l), "3:IX 1:IX 2:IS")
	l = asked(deed{3, api.IS}, deed{1, api.IS}, deed{2, api.S}, deed{1, api.IX}, deed{3, api.IX}, deed{4, api.IX})
	expect(t, "waiting", shown(l), "3:IS>IX 1:IS>IX 2:S | 4:>IX")
	expect(t, "granted", fmt.Sprint(l.Drop(2)), "[1 3 4]")
	expect(t, "behind it", shown(l), "3:IX 1:IX 4:IX")
}

func TestP1102HoldsOfANewOne(t *testing.T) {
	var l grant.Lock
	if len(l.Holds()) != 0 || len(l.Waits(0)) != 0 || len(l.Waits(1)) != 0 || len(l.Drop(0)) != 0 {
		t.Error("a new one has holders")
	}
}

func TestP1102Waits(t *testing.T) {
	for _, c := range []struct {
		asked string
		waits map[int]string
	}{
		{"1:X", map[int]string{1: "[]", 2: "[]", 0: "[]"}},
		{"1:X 2:X", map[int]string{1: "[]", 2: "[1]"}},
		{"9:S 5:S 7:S 1:X", map[int]string{1: "[5 7 9]", 5: "[]"}},
		{"9:S 5:S 7:S 5:X", map[int]string{5: "[7 9]", 9: "[]"}},
		{"1:S 2:S 1:X 2:X", map[int]string{1: "[2]", 2: "[1]"}},
		{"1:S 2:S 3:S 1:X 2:X 3:X", map[int]string{1: "[2 3]", 2: "[1 3]", 3: "[1 2]"}},
		{"1:IS 2:S 3:IX 4:IS", map[int]string{3: "[2]", 4: "[3]"}},
		{"1:IS 2:S 1:IX 3:S", map[int]string{1: "[2]", 3: "[1]"}},
		{"8:IS 2:IX 5:S 4:IS 3:X", map[int]string{5: "[2]", 4: "[5]", 3: "[2 4 5 8]"}},
		{"1:IS 2:IS 3:IX 1:S 2:S", map[int]string{1: "[3]", 2: "[1 3]"}},
		{"-4:S 0:S -9:S 3:IX 2:S", map[int]string{3: "[-9 -4 0]", 2: "[3]"}},
	} {
		l := asked(readDeeds(t, c.asked)...)
		for who, want := range c.waits {
			before := shown(l)
			expect(t, fmt.Sprintf("%s, Waits(%d)", c.asked, who), fmt.Sprint(l.Waits(who)), want)
			expect(t, "behind Waits", shown(l), before)
		}
	}
}

// sameAsPlain holds what the lock tells against the chapter's words.
func sameAsPlain(t *testing.T, l *grant.Lock, p *plain, whos []int) bool {
	t.Helper()
	if got, want := fmt.Sprint(l.Holds()), fmt.Sprint(p.holds()); got != want {
		t.Errorf("Holds: %s, not %s", got, want)
		return false
	}
	for _, w := range whos {
		if got, want := fmt.Sprint(l.Waits(w)), fmt.Sprint(p.waits(w)); got != want {
			t.Errorf("Waits(%d): %s, not %s", w, got, want)
			return false
		}
	}
	return true
}

// allDeeds are the deeds of some with each mode, and their Drops.
func allDeeds(whos []int) []deed {
	var l []deed
	for _, w := range whos {
		for _, m := range all {
			l = append(l, deed{w, m})
		}
		l = append(l, deed{w, drop})
	}
	return l
}

func TestP1101AllShortRuns(t *testing.T) {
	whos := []int{1, 2, 3}
	deeds := allDeeds(whos)
	run := make([]deed, 4)
	for n := range len(deeds) * len(deeds) * len(deeds) * len(deeds) {
		l, p := &grant.Lock{}, newPlain()
		for i := range run {
			run[i] = deeds[n%len(deeds)]
			n /= len(deeds)
			if got, want := said(l, run[i]), saidPlainly(p, run[i]); got != want {
				t.Fatalf("%v: %s, not %s", run[:i+1], got, want)
			}
		}
		if !sameAsPlain(t, l, p, whos) {
			t.Fatalf("behind %v", run)
		}
	}
}

// fitEachOther looks for holders that may not stand side by side, and for a
// first of the line that is kept waiting by nobody.
func fitEachOther(t *testing.T, l *grant.Lock) {
	t.Helper()
	holds := l.Holds()
	for i, a := range holds {
		for _, b := range holds[:i] {
			if !fit(a.Mode, b.Mode) {
				t.Fatalf("%v and %v are held at once", a, b)
			}
		}
		if a.Wants != api.None && len(l.Waits(a.Who)) == 0 {
			t.Fatalf("%v waits for nobody", a)
		}
	}
}

func TestP1102LongRuns(t *testing.T) {
	whos := []int{1, 2, 3, 0, -1, 7, math.MaxInt, math.MinInt}
	modes := slices.Concat([]int{api.None, drop, drop, drop}, all, all, all, others[:1])
	for seed := range 40 {
		chance := rand.New(rand.NewSource(int64(seed)))
		some := whos[:2+seed%(len(whos)-1)]
		l, p := &grant.Lock{}, newPlain()
		for range 1500 {
			d := deed{some[chance.Intn(len(some))], modes[chance.Intn(len(modes))]}
			if got, want := said(l, d), saidPlainly(p, d); got != want {
				t.Fatalf("seed %d: %v: %s, not %s", seed, d, got, want)
			}
			if !sameAsPlain(t, l, p, whos) {
				t.Fatalf("seed %d: behind %v", seed, d)
			}
			fitEachOther(t, l)
		}
	}
}

// In weaker modes most are held, and the holders are many.
func TestP1102LongRunsOfManyHolders(t *testing.T) {
	modes := []int{api.IS, api.IS, api.IS, api.IX, api.S, drop}
	for seed := range 10 {
		chance := rand.New(rand.NewSource(int64(100 + seed)))
		l, p := &grant.Lock{}, newPlain()
		for range 400 {
			d := deed{chance.Intn(40), modes[chance.Intn(len(modes))]}
			if got, want := said(l, d), saidPlainly(p, d); got != want {
				t.Fatalf("seed %d: %v: %s, not %s", seed, d, got, want)
			}
			if !sameAsPlain(t, l, p, []int{d.who, chance.Intn(40)}) {
				t.Fatalf("seed %d: behind %v", seed, d)
			}
		}
	}
}

func TestP1102Many(t *testing.T) {
	const n = 3000
	l := asked(deed{-1, api.X})
	for who := range n {
		if l.Ask(n-who, api.S) {
			t.Fatalf("S of %d beside X", n-who)
		}
	}
	if got := l.Waits(1); len(got) != n || !slices.IsSorted(got) || got[0] != -1 || got[1] != 2 {
		t.Errorf("the last one waits for %d", len(got))
	}
	got := l.Drop(-1)
	if len(got) != n || got[0] != n || got[n-1] != 1 {
		t.Fatalf("%d were granted", len(got))
	}
	if holds := l.Holds(); len(holds) != n || holds[0] != (api.Hold{Who: n, Mode: api.S}) || holds[n-1] != (api.Hold{Who: 1, Mode: api.S}) {
		t.Errorf("%d hold it", len(holds))
	}
}

func TestP1103TwoLocks(t *testing.T) {
	var a, b grant.Lock
	if !a.Ask(1, api.X) || !b.Ask(2, api.X) {
		t.Error("X of two new ones: false")
	}
	a.Ask(3, api.S)
	expect(t, "a", shown(&a), "1:X | 3:>S")
	expect(t, "b", shown(&b), "2:X")
	b.Drop(1)
	b.Drop(3)
	expect(t, "a", shown(&a), "1:X | 3:>S")
	if got := b.Waits(3); len(got) != 0 {
		t.Errorf("b has 3 wait for %v", got)
	}
}

// A lock that is copied as a value goes its own way, whichever of the two turns
// first.
func TestP1103Copies(t *testing.T) {
	starts := []string{
		"", "1:S", "1:IS 2:IS 3:IS", "1:X 2:S 3:S 4:X", "1:IS 2:IS 3:IS 4:S 1:IX 2:IX 5:IX 6:X",
	}
	deeds := allDeeds([]int{1, 2, 4, 8})
	for _, start := range starts {
		for _, d := range deeds {
			for _, e := range deeds {
				a := asked(readDeeds(t, start)...)
				b := *a
				p, q := asked(readDeeds(t, start)...), asked(readDeeds(t, start)...)
				expect(t, "a", said(a, d), said(p, d))
				expect(t, "b", said(&b, e), said(q, e))
				expect(t, "a", shown(a), shown(p))
				expect(t, "b", shown(&b), shown(q))
			}
		}
	}
}

func TestP1103Nil(t *testing.T) {
	var l *grant.Lock
	for _, who := range []int{0, 1, -1} {
		for m := -1; m < 7; m++ {
			if l.Ask(who, m) {
				t.Errorf("Ask(%d, %d) of nil: true", who, m)
			}
		}
		if l.Drop(who) != nil || l.Waits(who) != nil || l.Holds() != nil {
			t.Error("nil has somebody")
		}
	}
}

// What was answered is the caller's: to write into it, and into its spare room,
// turns nothing.
func TestP1103NewMemory(t *testing.T) {
	l := asked(readDeeds(t, "9:X 1:IS 2:IS 3:S 1:IX 2:IX 5:IX 6:X")...)
	spoil := func(w []int) {
		for i := range w[:cap(w)] {
			w[:cap(w)][i] = 77
		}
	}
	granted := l.Drop(9)
	expect(t, "granted", fmt.Sprint(granted), "[1 2 3]")
	spoil(granted)
	before := shown(l)
	expect(t, "before", before, "1:IS 2:IS 3:S | 5:>IX | 6:>X")
	holds, again := l.Holds(), l.Holds()
	for i := range holds[:cap(holds)] {
		holds[:cap(holds)][i] = api.Hold{Who: 77, Mode: 77, Wants: 77}
	}
	expect(t, "the other answer", fmt.Sprint(again), "[{1 1 0} {2 1 0} {3 3 0} {5 0 2} {6 0 5}]")
	waits, others := l.Waits(6), l.Waits(6)
	spoil(waits)
	expect(t, "the other answer", fmt.Sprint(others), "[1 2 3 5]")
	expect(t, "the lock", shown(l), before)
	expect(t, "Waits", fmt.Sprint(l.Waits(6)), "[1 2 3 5]")
	kept := fmt.Sprint(again, others)
	l.Drop(3)
	l.Drop(1)
	l.Ask(8, api.X)
	expect(t, "what was answered ahead", fmt.Sprint(again, others), kept)
}

func TestP1103HangsOnWhatItWasToldAlone(t *testing.T) {
	run := func() string {
		var b strings.Builder
		var l grant.Lock
		chance := rand.New(rand.NewSource(5))
		for range 300 {
			d := deed{chance.Intn(5), all[chance.Intn(len(all))]}
			if chance.Intn(4) == 0 {
				d.mode = drop
			}
			b.WriteString(said(&l, d) + shown(&l) + fmt.Sprint(l.Waits(2)))
		}
		return b.String()
	}
	want := run()
	got := make([]string, 8)
	var done sync.WaitGroup
	for i := range got {
		done.Go(func() { got[i] = run() })
	}
	done.Wait()
	for i := range got {
		if got[i] != want {
			t.Errorf("run %d is another one", i)
		}
	}
}
