package waits_test

import (
	"fmt"
	"math"
	"math/rand"
	"slices"
	"strconv"
	"strings"
	"sync"
	"testing"

	"poste/waits"
)

// edges reads them from a text: 1>2 says that 1 waits for 2, 1>2>3 also that 2
// waits for 3.
func edges(t *testing.T, text string) [][2]int {
	t.Helper()
	var l [][2]int
	for _, way := range strings.Fields(text) {
		var whos []int
		for _, f := range strings.Split(way, ">") {
			n, err := strconv.Atoi(f)
			if err != nil {
				t.Fatalf("no way: %s", way)
			}
			whos = append(whos, n)
		}
		if len(whos) < 2 {
			t.Fatalf("no way: %s", way)
		}
		for i := range whos[1:] {
			l = append(l, [2]int{whos[i], whos[i+1]})
		}
	}
	return l
}

// flipped are the edges with their ends turned round.
func flipped(l [][2]int) [][2]int {
	var o [][2]int
	for _, e := range l {
		o = append(o, [2]int{e[1], e[0]})
	}
	return o
}

// shuffled are the edges in an order by chance.
func shuffled(l [][2]int, seed int64) [][2]int {
	o := slices.Clone(l)
	rand.New(rand.NewSource(seed)).Shuffle(len(o), func(i, k int) { o[i], o[k] = o[k], o[i] })
	return o
}

// victim is that of a ring, as the chapter has it: its greatest.
func victim(ring []int) (int, bool) {
	if len(ring) == 0 {
		return 0, false
	}
	return slices.Max(ring), true
}

// expect holds both calls against the ring that is wanted.
func expect(t *testing.T, what string, l [][2]int, who int, want []int) {
	t.Helper()
	if got := waits.Ring(l, who); !slices.Equal(got, want) {
		t.Errorf("%s: Ring(%d): %v, not %v", what, who, got, want)
	}
	wantVictim, wantOk := victim(want)
	if got, ok := waits.Victim(l, who); got != wantVictim || ok != wantOk {
		t.Errorf("%s: Victim(%d): %d, %v, not %d, %v", what, who, got, ok, wantVictim, wantOk)
	}
}

func TestP1201OfNothing(t *testing.T) {
	for _, who := range []int{0, 1, -1, math.MaxInt, math.MinInt} {
		expect(t, "nil", nil, who, nil)
		expect(t, "an empty list", [][2]int{}, who, nil)
	}
}

func TestP1201Ring(t *testing.T) {
	for _, c := range []struct {
		edges string
		rings map[int]string
	}{
		{"1>1", map[int]string{1: "[1]", 0: "[]", 2: "[]"}},
		{"0>0", map[int]string{0: "[0]", 1: "[]"}},
		{"1>2", map[int]string{1: "[]", 2: "[]", 3: "[]"}},
		{"1>2>1", map[int]string{1: "[1 2]", 2: "[1 2]", 3: "[]", 0: "[]"}},
		{"5>3>5", map[int]string{3: "[3 5]", 5: "[3 5]", 4: "[]"}},
		{"1>2>3>1", map[int]string{1: "[1 2 3]", 2: "[1 2 3]", 3: "[1 2 3]"}},
		{"9>1>5>9", map[int]string{9: "[1 5 9]", 1: "[1 5 9]", 5: "[1 5 9]"}},
		// no step leads the other way round
		{"1>2>3 1>3", map[int]string{1: "[]", 2: "[]", 3: "[]"}},
		{"2>1 3>1 4>2 4>3", map[int]string{1: "[]", 2: "[]", 3: "[]", 4: "[]"}},
		// who waits for a ring is not in it, nor is for whom one waits that is in it
		{"1>2>3>2", map[int]string{1: "[]", 2: "[2 3]", 3: "[2 3]"}},
		{"2>3>2>1", map[int]string{1: "[]", 2: "[2 3]", 3: "[2 3]"}},
		{"1>2>2>3", map[int]string{1: "[]", 2: "[2]", 3: "[]"}},
		{"7>1>2>1>8", map[int]string{7: "[]", 8: "[]", 1: "[1 2]", 2: "[1 2]"}},
		// what stands beside the way is not in it
		{"1>2>3>1 2>7 8>3 7>9 6>8", map[int]string{1: "[1 2 3]", 2: "[1 2 3]", 7: "[]", 8: "[]", 9: "[]", 6: "[]"}},
		// two that have nothing in common, and two of which one waits for the other
		{"1>2>1 3>4>3", map[int]string{1: "[1 2]", 2: "[1 2]", 3: "[3 4]", 4: "[3 4]"}},
		{"1>2>1 3>4>3 2>3", map[int]string{1: "[1 2]", 2: "[1 2]", 3: "[3 4]", 4: "[3 4]"}},
		// two that have one in common, or an edge
		{"1>2>1 1>3>1", map[int]string{1: "[1 2 3]", 2: "[1 2 3]", 3: "[1 2 3]"}},
		{"1>2>3>1 2>4>5>2", map[int]string{1: "[1 2 3 4 5]", 3: "[1 2 3 4 5]", 5: "[1 2 3 4 5]"}},
		{"1>2>3>1 3>4>2", map[int]string{1: "[1 2 3 4]", 2: "[1 2 3 4]", 3: "[1 2 3 4]", 4: "[1 2 3 4]"}},
		// a ring within one that is greater, and some in a row
		{"1>2>3>4>1 2>1", map[int]string{1: "[1 2 3 4]", 2: "[1 2 3 4]", 3: "[1 2 3 4]", 4: "[1 2 3 4]"}},
		{"1>2>1 2>3>2 3>4>3 4>5>4", map[int]string{1: "[1 2 3 4 5]", 3: "[1 2 3 4 5]", 5: "[1 2 3 4 5]"}},
		// one's own edge turns nothing in a ring, and brings none in
		{"1>1 1>2", map[int]string{1: "[1]", 2: "[]"}},
		{"1>1 1>2>1 2>2", map[int]string{1: "[1 2]", 2: "[1 2]"}},
		// an edge that is there twice is as if it were there once
		{"1>2 1>2 2>1 2>1 2>1", map[int]string{1: "[1 2]", 2: "[1 2]"}},
		{"1>2 1>2", map[int]string{1: "[]", 2: "[]"}},
		{"1>1 1>1", map[int]string{1: "[1]"}},
		// the numbers rise as numbers do, not as texts
		{"10>9>-1>-10>0>100>10", map[int]string{0: "[-10 -1 0 9 10 100]", -10: "[-10 -1 0 9 10 100]", 1: "[]"}},
	} {
		l := edges(t, c.edges)
		for who, want := range c.rings {
			for seed := range int64(4) {
				if got := fmt.Sprint(waits.Ring(shuffled(l, seed), who)); got != want {
					t.Errorf("%s: Ring(%d): %s, not %s", c.edges, who, got, want)
				}
				if got := fmt.Sprint(waits.Ring(flipped(l), who)); got != want {
					t.Errorf("%s, flipped: Ring(%d): %s, not %s", c.edges, who, got, want)
				}
			}
		}
	}
}

func TestP1201Victim(t *testing.T) {
	for _, c := range []struct {
		edges string
		who   int
		want  int
		ok    bool
	}{
		{"1>2", 1, 0, false},
		{"1>2", 2, 0, false},
		{"1>2>1", 1, 2, true},
		{"1>2>1", 2, 2, true},
		{"1>2>1", 9, 0, false},
		{"3>1>2>3", 1, 3, true},
		// greater ones beside the ring are not in it
		{"1>2>1 9>1", 1, 2, true},
		{"1>2>1 1>9", 2, 2, true},
		{"9>1>2>1 2>8>8", 1, 2, true},
		{"9>1>2>1 2>8>8", 8, 8, true},
		{"9>1>2>1 2>8>8", 9, 0, false},
		{"1>2>1 3>4>3 2>3", 1, 2, true},
		{"1>2>1 3>4>3 2>3", 3, 4, true},
		// all rings through who count, not the shortest alone
		{"1>2>1 2>3>2", 1, 3, true},
		{"0>0", 0, 0, true},
		{"0>-1>0", -1, 0, true},
		{"-3>-5>-3", -5, -3, true},
		{"-7>-7", -7, -7, true},
		{"100>20>3>100", 3, 100, true},
	} {
		for seed := range int64(4) {
			got, ok := waits.Victim(shuffled(edges(t, c.edges), seed), c.who)
			if got != c.want || ok != c.ok {
				t.Errorf("%s: Victim(%d): %d, %v, not %d, %v", c.edges, c.who, got, ok, c.want, c.ok)
			}
		}
	}
}

func TestP1201FarNumbers(t *testing.T) {
	far := []int{math.MinInt, math.MinInt + 1, -1 << 40, math.MinInt32, -1, 0, 1, 1 << 31, 1 << 40, math.MaxInt - 1, math.MaxInt}
	var ring [][2]int
	for i, who := range far {
		expect(t, "one's own edge", [][2]int{{who, who}}, who, []int{who})
		ring = append(ring, [2]int{who, far[(i+4)%len(far)]})
	}
	for _, who := range far {
		expect(t, "all far numbers", ring, who, far)
		expect(t, "all but one step", ring[1:], who, nil)
	}
	for i, a := range far {
		for _, b := range far[i+1:] {
			expect(t, "two far numbers", [][2]int{{b, a}, {a, b}}, a, []int{a, b})
			expect(t, "two far numbers", [][2]int{{a, b}}, b, nil)
		}
	}
	// whose lowest bits are alike are others
	expect(t, "1 and 1 + 2^32", [][2]int{{1, 2}, {2, 1<<32 + 1}}, 1, nil)
}

// ways tells of all numbers from 0 to n, without n, which leads to which by the
// edges, in one step or more.
func ways(l [][2]int, n int) [][]bool {
	leads := make([][]bool, n)
	for i := range leads {
		leads[i] = make([]bool, n)
	}
	for _, e := range l {
		leads[e[0]][e[1]] = true
	}
	for by := range n {
		for a := range n {
			for b := range n {
				leads[a][b] = leads[a][b] || leads[a][by] && leads[by][b]
			}
		}
	}
	return leads
}

// plainRing is the Ring as the chapter's words have it.
func plainRing(leads [][]bool, who int) []int {
	var ring []int
	for other := range leads {
		if leads[who][other] && leads[other][who] {
			ring = append(ring, other)
		}
	}
	return ring
}

// bits are the edges among n numbers that the bits of a number choose.
func bits(chosen, n int) [][2]int {
	var l [][2]int
	for i := range n * n {
		if chosen>>i&1 == 1 {
			l = append(l, [2]int{i / n, i % n})
		}
	}
	return l
}

func TestP1201AllSmallGraphs(t *testing.T) {
	for n := 1; n <= 4; n++ {
		for chosen := range 1 << (n * n) {
			l := bits(chosen, n)
			leads := ways(l, n)
			for who := range n {
				expect(t, "edges "+strconv.Itoa(chosen), l, who, plainRing(leads, who))
			}
			if t.Failed() {
				return
			}
		}
	}
}

func TestP1201GraphsByChance(t *testing.T) {
	for seed := range 400 {
		chance := rand.New(rand.NewSource(int64(seed)))
		n := 1 + chance.Intn(24)
		var l [][2]int
		for range chance.Intn(3 * n) {
			l = append(l, [2]int{chance.Intn(n), chance.Intn(n)})
		}
		leads := ways(l, n)
		for who := range n {
			expect(t, fmt.Sprintf("seed %d: %v", seed, l), l, who, plainRing(leads, who))
		}
		if t.Failed() {
			return
		}
	}
}

// A number is a name: other ones in the same order have the same rings.
func TestP1201OtherNumbers(t *testing.T) {
	far := func(i int) int { return math.MinInt + i*(math.MaxInt/10*2) }
	for seed := range 200 {
		chance := rand.New(rand.NewSource(int64(1000 + seed)))
		var near, others [][2]int
		for range 4 + chance.Intn(14) {
			a, b := chance.Intn(10), chance.Intn(10)
			near = append(near, [2]int{a, b})
			others = append(others, [2]int{far(a), far(b)})
		}
		leads := ways(near, 10)
		for who := range 10 {
			var want []int
			for _, w := range plainRing(leads, who) {
				want = append(want, far(w))
			}
			expect(t, fmt.Sprintf("seed %d: %v", seed, others), others, far(who), want)
		}
	}
}

// rising are the numbers from 0 to n, without n.
func rising(n int) []int {
	l := make([]int, n)
	for i := range l {
		l[i] = i
	}
	return l
}

func TestP1201LongRing(t *testing.T) {
	const n = 100000
	var l [][2]int
	for i := range n {
		l = append(l, [2]int{i, (i + 1) % n})
	}
	expect(t, "a long ring", l, 5, rising(n))
	expect(t, "a long ring, flipped", flipped(l), n-1, rising(n))
	expect(t, "a long ring, shuffled", shuffled(l, 1), n/2, rising(n))
	expect(t, "a long way", l[1:], 1, nil)
	expect(t, "a long way, from its end", l[1:], 0, nil)
	expect(t, "a long way, shuffled", shuffled(l[1:], 2), n/2, nil)
}

func TestP1201ManyEdges(t *testing.T) {
	const n = 500
	var all, up [][2]int
	for a := range n {
		for b := range n {
			all = append(all, [2]int{a, b})
			if a < b {
				up = append(up, [2]int{a, b})
			}
		}
	}
	expect(t, "all wait for all", all, n/2, rising(n))
	for _, who := range []int{0, 1, n / 2, n - 2, n - 1} {
		expect(t, "each waits for the greater ones", up, who, nil)
	}
	expect(t, "and the greatest for the least", append(up, [2]int{n - 1, 0}), 7, rising(n))
	expect(t, "one edge many times", slices.Repeat([][2]int{{3, 3}, {3, 4}}, 200000), 3, []int{3})
	expect(t, "two edges many times", slices.Repeat([][2]int{{4, 3}, {3, 4}}, 200000), 3, []int{3, 4})
}

// Who waits for many, or whom many wait for, is in no ring by that alone.
func TestP1201Stars(t *testing.T) {
	const n = 100000
	var out [][2]int
	for i := range n {
		out = append(out, [2]int{0, i + 1})
	}
	for _, who := range []int{0, 1, n} {
		expect(t, "one waits for many", out, who, nil)
		expect(t, "many wait for one", flipped(out), who, nil)
		expect(t, "both", slices.Concat(out, flipped(out)), who, rising(n+1))
	}
	expect(t, "one comes back", append(out, [2]int{77, 0}), 0, []int{0, 77})
	expect(t, "another one does not", append(out, [2]int{77, 0}), 78, nil)
}

// With its victim gone, a ring is over or smaller; so in the end nobody waits in
// a ring.
func TestP1201RingsEnd(t *testing.T) {
	for seed := range 100 {
		chance := rand.New(rand.NewSource(int64(2000 + seed)))
		var l [][2]int
		for range 40 {
			l = append(l, [2]int{chance.Intn(12), chance.Intn(12)})
		}
		for who := range 12 {
			for range 13 {
				gone, ok := waits.Victim(l, who)
				if !ok {
					break
				}
				l = slices.DeleteFunc(l, func(e [2]int) bool { return e[0] == gone || e[1] == gone })
			}
			expect(t, "all victims are gone", l, who, nil)
		}
	}
}

func TestP1202WhatIsHandedInStays(t *testing.T) {
	whole := edges(t, "4>2>4 3>1 2>9>2 8>8 1>3 5>6 6>5")
	before := slices.Clone(whole)
	l := whole[:6]
	for who := range 10 {
		waits.Ring(l, who)
		waits.Victim(l, who)
		if !slices.Equal(whole, before) {
			t.Fatalf("behind who %d: %v, not %v", who, whole, before)
		}
	}
}

func TestP1202WhatIsAnsweredIsNew(t *testing.T) {
	l := edges(t, "1>2>3>1")
	a := waits.Ring(l, 1)
	b := waits.Ring(l, 1)
	for i := range a {
		a[i] = -7
	}
	_ = append(a[:0], 8, 8, 8)
	if want := []int{1, 2, 3}; !slices.Equal(b, want) || !slices.Equal(waits.Ring(l, 1), want) {
		t.Errorf("two answers have something in common: %v, %v", b, waits.Ring(l, 1))
	}
	if want := edges(t, "1>2>3>1"); !slices.Equal(l, want) {
		t.Errorf("an answer has something in common with the edges: %v", l)
	}
}

func TestP1202NothingIsKept(t *testing.T) {
	l := edges(t, "1>2>1")
	expect(t, "a ring", l, 1, []int{1, 2})
	l[1] = [2]int{2, 3}
	expect(t, "one that is over", l, 1, nil)
	expect(t, "nothing", nil, 1, nil)
	expect(t, "the other step alone", edges(t, "2>1"), 1, nil)
}

// answers are what the calls answer of all small graphs, one behind the other.
func answers() string {
	var b strings.Builder
	for chosen := range 1 << 9 {
		for who := range 4 {
			l := bits(chosen, 3)
			v, ok := waits.Victim(l, who)
			fmt.Fprintln(&b, waits.Ring(l, who), v, ok)
		}
	}
	return b.String()
}

func TestP1202HangsOnArgumentsAlone(t *testing.T) {
	want := answers()
	got := make([]string, 8)
	var workers sync.WaitGroup
	for i := range got {
		workers.Go(func() { got[i] = answers() })
	}
	workers.Wait()
	for i := range got {
		if got[i] != want {
			t.Errorf("worker %d was answered otherwise", i)
		}
	}
}

// The order of the edges is not told, nor is that in which the ring is found.
func TestP1202TheOrderOfEdgesIsNotTold(t *testing.T) {
	const n = 60
	var l [][2]int
	for i := range n {
		l = append(l, [2]int{i, (i + 7) % n}, [2]int{i, i / 2}, [2]int{n + i, i})
	}
	for seed := range int64(50) {
		o := shuffled(l, seed)
		expect(t, "shuffled", o, int(seed), rising(n))
		expect(t, "shuffled", o, n+int(seed), nil)
	}
}
