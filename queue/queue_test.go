package queue_test

import (
	"fmt"
	"math"
	"math/rand"
	"slices"
	"strings"
	"sync"
	"testing"

	"poste/api"
	"poste/queue"
)

// free and taken are messages that nobody has and that somebody has.
func free(id, pri int) api.Msg { return api.Msg{Id: id, Pri: pri, Body: fmt.Sprint("b", id)} }

func taken(id, pri int) api.Msg {
	m := free(id, pri)
	m.Claimed = true
	return m
}

// matched is a message of this Corr.
func matched(m api.Msg, corr string) api.Msg {
	m.Corr = corr
	return m
}

// told is a list as a text: Pri:Id of each, with a * if it is claimed.
func told(l []api.Msg) string {
	var texts []string
	for _, m := range l {
		text := fmt.Sprintf("%d:%d", m.Pri, m.Id)
		if m.Claimed {
			text += "*"
		}
		texts = append(texts, text)
	}
	return strings.Join(texts, " ")
}

// behind is the order of messages spelled out: a is behind b.
func behind(a, b api.Msg) bool {
	return a.Pri > b.Pri || a.Pri == b.Pri && a.Id > b.Id
}

// plainAdd lays the messages one by one.
func plainAdd(l []api.Msg, m api.Msg) []api.Msg {
	var want []api.Msg
	added := false
	for _, other := range l {
		if !added && behind(other, m) {
			want = append(want, m)
			added = true
		}
		want = append(want, other)
	}
	if !added {
		want = append(want, m)
	}
	return want
}

// plainFirst is the first place of which it holds, looked for from the end on.
func plainFirst(l []api.Msg, holds func(m api.Msg) bool) int {
	at := -1
	for i := len(l) - 1; i >= 0; i-- {
		if holds(l[i]) {
			at = i
		}
	}
	return at
}

func plainFind(l []api.Msg, id int) int {
	return plainFirst(l, func(m api.Msg) bool { return m.Id == id })
}

func plainLeast(l []api.Msg) int {
	return plainFirst(l, func(m api.Msg) bool { return !m.Claimed })
}

func plainMatch(l []api.Msg, corr string) int {
	return plainFirst(l, func(m api.Msg) bool { return !m.Claimed && m.Corr == corr })
}

// plainCut lays the messages one by one.
func plainCut(l []api.Msg, id int) ([]api.Msg, bool) {
	var want []api.Msg
	gone := false
	for _, m := range l {
		if !gone && m.Id == id {
			gone = true
		} else {
			want = append(want, m)
		}
	}
	return want, gone
}

// plainClaim lays the messages one by one.
func plainClaim(l []api.Msg, id int, on bool) ([]api.Msg, bool) {
	var want []api.Msg
	met, turned := false, false
	for _, m := range l {
		if !met && m.Id == id {
			met, turned = true, m.Claimed != on
			m.Claimed = on
		}
		want = append(want, m)
	}
	return want, turned
}

// plainRises holds every two messages against each other.
func plainRises(l []api.Msg) bool {
	wrong := 0
	for i := range l {
		for k := range i {
			if !behind(l[i], l[k]) || l[i].Id == l[k].Id {
				wrong++
			}
		}
	}
	return wrong == 0
}

// as checks all calls with this list and this message against the plain ones.
func as(l []api.Msg, m api.Msg) string {
	if got, want := queue.Add(l, m), plainAdd(l, m); !slices.Equal(got, want) {
		return fmt.Sprintf("Add(%+v, %+v): %+v, want %+v", l, m, got, want)
	}
	if got, want := queue.Find(l, m.Id), plainFind(l, m.Id); got != want {
		return fmt.Sprintf("Find(%+v, %d): %d, want %d", l, m.Id, got, want)
	}
	if got, want := queue.Least(l), plainLeast(l); got != want {
		return fmt.Sprintf("Least(%+v): %d, want %d", l, got, want)
	}
	if got, want := queue.Match(l, m.Corr), plainMatch(l, m.Corr); got != want {
		return fmt.Sprintf("Match(%+v, %q): %d, want %d", l, m.Corr, got, want)
	}
	got, ok := queue.Cut(l, m.Id)
	if want, wok := plainCut(l, m.Id); !slices.Equal(got, want) || ok != wok {
		return fmt.Sprintf("Cut(%+v, %d): %+v, %t, want %+v, %t", l, m.Id, got, ok, want, wok)
	}
	for _, on := range []bool{false, true} {
		got, ok := queue.Claim(l, m.Id, on)
		if want, wok := plainClaim(l, m.Id, on); !slices.Equal(got, want) || ok != wok {
			return fmt.Sprintf("Claim(%+v, %d, %t): %+v, %t, want %+v, %t", l, m.Id, on, got, ok, want, wok)
		}
	}
	if got := queue.Rises(l); got != plainRises(l) {
		return fmt.Sprintf("Rises(%+v): %t", l, got)
	}
	return ""
}

// allLists are all lists of at most n of these messages, those that rise and
// those that do not; the Body tells the place.
func allLists(msgs []api.Msg, n int) [][]api.Msg {
	all := [][]api.Msg{nil}
	last := all
	for range n {
		var longer [][]api.Msg
		for _, l := range last {
			for _, m := range msgs {
				m.Body = fmt.Sprint("at", len(l))
				longer = append(longer, append(slices.Clone(l), m))
			}
		}
		all = append(all, longer...)
		last = longer
	}
	return all
}

// fewMsgs are messages of few Pris and Ids, some of them claimed.
func fewMsgs() []api.Msg {
	return []api.Msg{
		free(1, 0), free(2, 0), free(1, -1), taken(2, 1), matched(taken(3, 0), "c"), matched(free(3, 1), "c"),
	}
}

// farMsgs are messages of numbers at the ends, and of texts that are not short.
func farMsgs() []api.Msg {
	return []api.Msg{
		{}, free(math.MinInt, math.MinInt), free(math.MaxInt, math.MinInt), taken(math.MinInt, math.MaxInt),
		free(math.MaxInt, math.MaxInt), taken(-1, 0), matched(free(0, 0), strings.Repeat("c", 1000)),
	}
}

func TestP1501AddOrdinary(t *testing.T) {
	l := []api.Msg{free(4, -1), taken(2, 0), free(6, 0), free(1, 5)}
	for _, x := range []struct {
		l    []api.Msg
		m    api.Msg
		want string
	}{
		{nil, free(1, 0), "0:1"},
		{[]api.Msg{}, taken(1, 0), "0:1*"},
		{nil, api.Msg{}, "0:0"},
		{l, free(9, -2), "-2:9 -1:4 0:2* 0:6 5:1"},
		{l, free(3, -1), "-1:3 -1:4 0:2* 0:6 5:1"},
		{l, free(5, -1), "-1:4 -1:5 0:2* 0:6 5:1"},
		{l, free(0, 0), "-1:4 0:0 0:2* 0:6 5:1"},
		{l, free(1, 0), "-1:4 0:1 0:2* 0:6 5:1"},
		{l, taken(3, 0), "-1:4 0:2* 0:3* 0:6 5:1"},
		{l, free(7, 0), "-1:4 0:2* 0:6 0:7 5:1"},
		{l, free(9, 4), "-1:4 0:2* 0:6 4:9 5:1"},
		{l, free(0, 5), "-1:4 0:2* 0:6 5:0 5:1"},
		{l, free(2, 5), "-1:4 0:2* 0:6 5:1 5:2"},
		{l, free(0, 6), "-1:4 0:2* 0:6 5:1 6:0"},
		{l, free(math.MinInt, math.MinInt), fmt.Sprintf("%d:%d -1:4 0:2* 0:6 5:1", math.MinInt, math.MinInt)},
		{l, free(math.MaxInt, math.MaxInt), fmt.Sprintf("-1:4 0:2* 0:6 5:1 %d:%d", math.MaxInt, math.MaxInt)},
	} {
		if got := told(queue.Add(x.l, x.m)); got != x.want {
			t.Errorf("Add of %s to %s: %s, want %s", told([]api.Msg{x.m}), told(x.l), got, x.want)
		}
	}
}

// One of m's own Pri and Id is not behind it: m comes behind all of these.
func TestP1501AddOfWhatIsThere(t *testing.T) {
	l := []api.Msg{free(1, 0), {Id: 2, Body: "first"}, {Id: 2, Body: "second"}, free(3, 0)}
	m := api.Msg{Id: 2, Retry: 7, Claimed: true, Corr: "c", Body: "third"}
	want := []api.Msg{l[0], l[1], l[2], m, l[3]}
	if got := queue.Add(l, m); !slices.Equal(got, want) {
		t.Errorf("Add of one that is there twice: %+v", got)
	}
	if got := queue.Add(l[:1], l[0]); !slices.Equal(got, []api.Msg{l[0], l[0]}) {
		t.Errorf("Add of one to itself: %+v", got)
	}
}

// Where messages do not rise, it is the first one that is behind m.
func TestP1501AddFirstPlace(t *testing.T) {
	for _, x := range []struct {
		l    []api.Msg
		m    api.Msg
		want string
	}{
		{[]api.Msg{free(3, 0), free(1, 0), free(2, 0)}, free(2, 0), "0:2 0:3 0:1 0:2"},
		{[]api.Msg{free(1, 0), free(9, 0), free(1, 0), free(2, 0), free(3, 0)}, free(4, 0), "0:1 0:4 0:9 0:1 0:2 0:3"},
		{[]api.Msg{free(1, 9), free(1, 1), free(1, 2)}, free(5, 2), "2:5 9:1 1:1 2:1"},
		{[]api.Msg{free(1, 3), free(1, 2), free(1, 1)}, free(1, 4), "3:1 2:1 1:1 4:1"},
		{[]api.Msg{free(1, 3), free(1, 2), free(1, 1)}, free(1, 0), "0:1 3:1 2:1 1:1"},
		{[]api.Msg{free(1, 0), free(1, 1), free(1, 0), free(1, 0), free(1, 0), free(1, 0)}, free(2, 0), "0:1 0:2 1:1 0:1 0:1 0:1 0:1"},
	} {
		if got := told(queue.Add(x.l, x.m)); got != x.want {
			t.Errorf("Add of %s to %s: %s, want %s", told([]api.Msg{x.m}), told(x.l), got, x.want)
		}
	}
}

// Nothing but Pri and Id tells the place, and m comes in as it is.
func TestP1501AddByPriAndIdAlone(t *testing.T) {
	l := []api.Msg{
		{Id: 1, Retry: 900, Claimed: true, Corr: "z", Body: "z"},
		{Id: 3, Retry: -1, Corr: "a", Body: "a"},
	}
	for _, m := range []api.Msg{
		{Id: 2}, {Id: 2, Claimed: true}, {Id: 2, Retry: 1000}, {Id: 2, Retry: math.MinInt}, {Id: 2, Corr: "\xff"},
		{Id: 2, Body: "\x00"}, {Id: 2, Retry: 5, Claimed: true, Corr: strings.Repeat("c", 1000), Body: strings.Repeat("b", 100000)},
	} {
		if got := queue.Add(l, m); !slices.Equal(got, []api.Msg{l[0], m, l[1]}) {
			t.Errorf("Add of %+v: %+v", m, got)
		}
	}
}

func TestP1501Find(t *testing.T) {
	l := []api.Msg{free(4, -1), taken(2, 0), free(6, 0), taken(2, 3), free(1, 5), free(4, 9)}
	for _, x := range []struct {
		l        []api.Msg
		id, want int
	}{
		{nil, 0, -1}, {nil, 1, -1}, {[]api.Msg{}, -1, -1}, {[]api.Msg{{}}, 0, 0}, {[]api.Msg{{}}, 1, -1},
		{l, 4, 0}, {l, 2, 1}, {l, 6, 2}, {l, 1, 4}, {l, 3, -1}, {l, 0, -1}, {l, -1, -1}, {l, 5, -1}, {l, 9, -1}, {l, 7, -1},
		{l, math.MinInt, -1}, {l, math.MaxInt, -1}, {l, 4 + 1<<32, -1},
		{farMsgs(), math.MinInt, 1}, {farMsgs(), math.MaxInt, 2}, {farMsgs(), -1, 5}, {farMsgs(), 0, 0},
	} {
		if got := queue.Find(x.l, x.id); got != x.want {
			t.Errorf("Find of %d in %s: %d, want %d", x.id, told(x.l), got, x.want)
		}
	}
}

func TestP1501Least(t *testing.T) {
	for _, x := range []struct {
		l    []api.Msg
		want int
	}{
		{nil, -1}, {[]api.Msg{}, -1}, {[]api.Msg{{}}, 0}, {[]api.Msg{{Claimed: true}}, -1},
		{[]api.Msg{free(1, 0), free(2, 0)}, 0},
		{[]api.Msg{taken(1, 0), free(2, 0)}, 1},
		{[]api.Msg{taken(1, 0), taken(2, 0)}, -1},
		{[]api.Msg{taken(1, 0), taken(2, 0), free(3, 0), taken(4, 0), free(5, 0)}, 2},
		{[]api.Msg{taken(1, -5), free(9, 9), free(1, 0)}, 1}, // the first, though a lesser one is behind it
		{[]api.Msg{free(9, 9), free(1, 0)}, 0},
		{[]api.Msg{{Id: 1, Claimed: true}, {Id: 1, Retry: 1000, Corr: "c"}}, 1},
	} {
		if got := queue.Least(x.l); got != x.want {
			t.Errorf("Least of %s: %d, want %d", told(x.l), got, x.want)
		}
	}
}

func TestP1501Match(t *testing.T) {
	l := []api.Msg{
		matched(taken(1, 0), "a"), matched(free(2, 0), "b"), matched(free(3, 0), "a"), free(4, 0),
		matched(free(5, 0), "a"), matched(taken(6, 0), "c"), matched(free(7, 0), "ab"), matched(free(8, 0), "a\x00"),
	}
	for _, x := range []struct {
		l    []api.Msg
		corr string
		want int
	}{
		{nil, "", -1}, {nil, "a", -1}, {[]api.Msg{}, "", -1}, {[]api.Msg{{}}, "", 0}, {[]api.Msg{{Claimed: true}}, "", -1}, {[]api.Msg{{}}, "a", -1},
		{l, "a", 2}, {l, "b", 1}, {l, "", 3}, {l, "c", -1}, {l, "ab", 6}, {l, "a\x00", 7}, {l, "\x00", -1},
		{l, "A", -1}, {l, "b2", -1}, {l, "abc", -1}, {l[:3], "", -1}, {l[:1], "a", -1}, {l[4:], "a", 0},
		{farMsgs(), strings.Repeat("c", 1000), 6}, {farMsgs(), strings.Repeat("c", 999), -1},
	} {
		if got := queue.Match(x.l, x.corr); got != x.want {
			t.Errorf("Match of %.9q in %s: %d, want %d", x.corr, told(x.l), got, x.want)
		}
	}
}

func TestP1501Cut(t *testing.T) {
	l := []api.Msg{free(4, -1), taken(2, 0), free(6, 0)}
	again := []api.Msg{free(2, 5), free(1, 0), taken(2, 0), free(2, 9)}
	for _, x := range []struct {
		l    []api.Msg
		id   int
		want string
		ok   bool
	}{
		{nil, 0, "", false}, {nil, 1, "", false}, {[]api.Msg{}, 1, "", false}, {[]api.Msg{{}}, 0, "", true}, {[]api.Msg{{}}, 1, "0:0", false},
		{l, 4, "0:2* 0:6", true}, {l, 2, "-1:4 0:6", true}, {l, 6, "-1:4 0:2*", true},
		{l, 0, "-1:4 0:2* 0:6", false}, {l, -1, "-1:4 0:2* 0:6", false}, {l, 5, "-1:4 0:2* 0:6", false}, {l, math.MinInt, "-1:4 0:2* 0:6", false},
		{again, 2, "0:1 0:2* 9:2", true}, {again[1:], 2, "0:1 9:2", true}, {again, 1, "5:2 0:2* 9:2", true},
	} {
		if got, ok := queue.Cut(x.l, x.id); told(got) != x.want || ok != x.ok {
			t.Errorf("Cut of %d from %s: %s, %t, want %s, %t", x.id, told(x.l), told(got), ok, x.want, x.ok)
		}
	}
}

func TestP1501Claim(t *testing.T) {
	l := []api.Msg{free(4, -1), taken(2, 0), free(6, 0)}
	again := []api.Msg{taken(2, 5), free(1, 0), free(2, 6), taken(2, 9)}
	for _, x := range []struct {
		l    []api.Msg
		id   int
		on   bool
		want string
		ok   bool
	}{
		{nil, 0, true, "", false}, {nil, 0, false, "", false}, {[]api.Msg{}, 1, true, "", false},
		{[]api.Msg{{}}, 0, true, "0:0*", true}, {[]api.Msg{{}}, 0, false, "0:0", false}, {[]api.Msg{{}}, 1, true, "0:0", false},
		{l, 4, true, "-1:4* 0:2* 0:6", true}, {l, 4, false, "-1:4 0:2* 0:6", false},
		{l, 2, true, "-1:4 0:2* 0:6", false}, {l, 2, false, "-1:4 0:2 0:6", true},
		{l, 6, true, "-1:4 0:2* 0:6*", true}, {l, 6, false, "-1:4 0:2* 0:6", false},
		{l, 5, true, "-1:4 0:2* 0:6", false}, {l, 5, false, "-1:4 0:2* 0:6", false}, {l, math.MaxInt, true, "-1:4 0:2* 0:6", false},
		{again, 2, true, "5:2* 0:1 6:2 9:2*", false}, {again, 2, false, "5:2 0:1 6:2 9:2*", true},
		{again[1:], 2, true, "0:1 6:2* 9:2*", true}, {again[1:], 2, false, "0:1 6:2 9:2*", false},
	} {
		if got, ok := queue.Claim(x.l, x.id, x.on); told(got) != x.want || ok != x.ok {
			t.Errorf("Claim of %d in %s, %t: %s, %t, want %s, %t", x.id, told(x.l), x.on, told(got), ok, x.want, x.ok)
		}
	}
}

// All but Claimed stays as it is, the count of tries too.
func TestP1501ClaimTurnsNothingElse(t *testing.T) {
	for _, retry := range []int{math.MinInt, -1, 0, 1, 1000, math.MaxInt} {
		m := api.Msg{Id: 7, Pri: -3, Retry: retry, Corr: "corr", Body: strings.Repeat("b", 1000)}
		want := m
		want.Claimed = true
		l, ok := queue.Claim([]api.Msg{m}, 7, true)
		if !ok || !slices.Equal(l, []api.Msg{want}) {
			t.Errorf("Claim of %+v: %+v", m, l)
		}
		if l, ok = queue.Claim(l, 7, false); !ok || !slices.Equal(l, []api.Msg{m}) {
			t.Errorf("Claim of %+v and back: %+v", m, l)
		}
	}
}

func TestP1501Rises(t *testing.T) {
	for _, x := range []struct {
		l    []api.Msg
		want bool
	}{
		{nil, true}, {[]api.Msg{}, true}, {[]api.Msg{{}}, true}, {[]api.Msg{free(-5, -5)}, true},
		{[]api.Msg{free(1, 0), free(2, 0)}, true},
		{[]api.Msg{free(2, 0), free(1, 0)}, false},
		{[]api.Msg{free(1, 0), free(1, 0)}, false},
		{[]api.Msg{free(1, 0), taken(1, 0)}, false},
		{[]api.Msg{{}, {}}, false},
		{[]api.Msg{free(9, 0), free(1, 1)}, true},
		{[]api.Msg{free(1, 1), free(9, 0)}, false},
		{[]api.Msg{free(1, 0), free(1, 1)}, false},
		{[]api.Msg{free(1, 0), free(2, 1), free(1, 2)}, false},
		{[]api.Msg{free(1, 0), free(2, 1), free(2, 2)}, false},
		{[]api.Msg{free(3, 0), free(2, 1), free(1, 2)}, true},
		{[]api.Msg{free(1, -2), free(5, -1), free(2, 0), free(3, 0), free(4, 7), free(5, 7)}, false},
		{[]api.Msg{free(1, -2), free(5, -1), free(2, 0), free(3, 0), free(4, 7), free(6, 7)}, true},
		{[]api.Msg{free(5, -1), free(1, -2), free(2, 0), free(3, 0), free(4, 7), free(6, 7)}, false},
		{[]api.Msg{free(1, -2), free(5, -1), free(2, 0), free(3, 0), free(6, 7), free(4, 7)}, false},
		{[]api.Msg{free(1, -2), free(5, -1), free(3, 0), free(2, 0), free(4, 7), free(6, 7)}, false},
		{[]api.Msg{free(math.MaxInt, math.MinInt), free(math.MinInt, math.MaxInt)}, true},
		{[]api.Msg{free(math.MinInt, math.MaxInt), free(math.MaxInt, math.MinInt)}, false},
		{[]api.Msg{free(math.MinInt, 0), free(math.MaxInt, 0)}, true},
		{[]api.Msg{free(math.MaxInt, 0), free(math.MinInt, 0)}, false},
		{[]api.Msg{free(1, 0), free(1+1<<32, 0)}, true},
		{[]api.Msg{{Id: 1, Retry: 9, Corr: "z", Body: "z", Claimed: true}, {Id: 2, Corr: "a"}}, true},
		{[]api.Msg{{Id: 1, Retry: 1, Corr: "a", Body: "a"}, {Id: 1, Retry: 2, Corr: "b", Body: "b"}}, false},
	} {
		if got := queue.Rises(x.l); got != x.want {
			t.Errorf("Rises of %s: %t", told(x.l), got)
		}
	}
}

func TestP1501Exhaustively(t *testing.T) {
	few := allLists(fewMsgs(), 4)
	for _, l := range append(few, allLists(farMsgs(), 3)...) {
		for _, m := range slices.Concat(fewMsgs(), farMsgs()) {
			if wrong := as(l, m); wrong != "" {
				t.Fatal(wrong)
			}
		}
	}
	three := []api.Msg{free(1, 0), taken(2, 0), matched(free(3, 0), "c")}
	for _, l := range allLists(three, 7) {
		for _, m := range append(three, free(4, 0), free(0, 0)) {
			if wrong := as(l, m); wrong != "" {
				t.Fatal(wrong)
			}
		}
	}
}

// lives is a queue and what is told of it beside: all messages by Id.
type lives struct {
	l    []api.Msg
	told map[int]api.Msg
	next int
}

// step does one deed by chance, on both, and tells what is wrong then.
func (q *lives) step(chance *rand.Rand) string {
	id := 1 + chance.Intn(q.next)
	m, there := q.told[id]
	var ok, want bool
	switch kind := chance.Intn(6); kind {
	case 0, 1, 2:
		m = api.Msg{Id: q.next, Pri: chance.Intn(7) - 3, Corr: fmt.Sprint(chance.Intn(4))}
		q.l, ok, want = queue.Add(q.l, m), true, true
		q.told[q.next] = m
		q.next++
	case 3:
		q.l, ok = queue.Cut(q.l, id)
		want = there
		delete(q.told, id)
	default:
		on := kind == 4
		q.l, ok = queue.Claim(q.l, id, on)
		want = there && m.Claimed != on
		if there {
			m.Claimed = on
			q.told[id] = m
		}
	}
	if ok != want {
		return fmt.Sprintf("%t of %d in %s", ok, id, told(q.l))
	}
	return q.wrong()
}

// wrong tells what is not as it should be.
func (q *lives) wrong() string {
	if len(q.l) != len(q.told) || !queue.Rises(q.l) || !plainRises(q.l) {
		return fmt.Sprintf("%s of %v", told(q.l), q.told)
	}
	for i, m := range q.l {
		if q.told[m.Id] != m || queue.Find(q.l, m.Id) != i {
			return fmt.Sprintf("%+v at %d, want %+v", m, i, q.told[m.Id])
		}
	}
	for corr := range 5 {
		if wrong := as(q.l, api.Msg{Id: q.next, Corr: fmt.Sprint(corr)}); wrong != "" {
			return wrong
		}
	}
	return ""
}

// Messages that rise go on rising, whatever comes, goes and is claimed.
func TestP1501ByChance(t *testing.T) {
	for seed := range 60 {
		chance := rand.New(rand.NewSource(int64(seed)))
		q := &lives{told: map[int]api.Msg{}, next: 1}
		for range 150 {
			if wrong := q.step(chance); wrong != "" {
				t.Fatalf("seed %d: %s", seed, wrong)
			}
		}
	}
}

// Nothing hangs on how many messages there are.
func TestP1501Many(t *testing.T) {
	const n = 100000
	var l []api.Msg
	for i := range n {
		l = append(l, api.Msg{Id: 2*i + 2, Pri: i / 1000, Claimed: i < n/2})
	}
	if !queue.Rises(l) || queue.Rises(append(slices.Clone(l), api.Msg{Id: 2, Pri: n})) || queue.Rises(append(slices.Clone(l), l[n-1])) {
		t.Error("Rises of many")
	}
	if got := queue.Least(l); got != n/2 {
		t.Errorf("Least of many: %d", got)
	}
	l[n-1].Corr = "last"
	if queue.Match(l, "last") != n-1 || queue.Match(l, "none") != -1 || queue.Match(l, "") != n/2 {
		t.Error("Match of many")
	}
	for _, at := range []int{0, 1, n / 2, n - 2, n - 1} {
		m := api.Msg{Id: l[at].Id + 1, Pri: l[at].Pri, Body: "new"}
		more := queue.Add(l, m)
		if !slices.Equal(more, plainAdd(l, m)) || queue.Find(more, m.Id) != at+1 || !queue.Rises(more) {
			t.Errorf("Add to many, behind %d", at)
		}
		if less, ok := queue.Cut(more, m.Id); !ok || !slices.Equal(less, l) {
			t.Errorf("Cut from many, at %d", at+1)
		}
	}
}

// lists has what all calls answer of a list and a message.
func lists(l []api.Msg, m api.Msg) map[string][]api.Msg {
	cut, _ := queue.Cut(l, m.Id)
	on, _ := queue.Claim(l, m.Id, true)
	off, _ := queue.Claim(l, m.Id, false)
	return map[string][]api.Msg{"Add": queue.Add(l, m), "Cut": cut, "Claim on": on, "Claim off": off}
}

// fill writes over a list and all of its spare room.
func fill(l []api.Msg) {
	l = l[:cap(l)]
	for i := range l {
		l[i] = api.Msg{Id: -99, Pri: -99, Retry: -99, Claimed: true, Corr: "fill", Body: "fill"}
	}
}

// The list stands in the middle of a greater one: so a call that writes ahead
// of it, in it, or in its spare room is seen.
func TestP1502WhatIsHandedIn(t *testing.T) {
	for _, l := range allLists(fewMsgs(), 3) {
		for _, m := range append(fewMsgs(), free(9, 9)) {
			for _, spare := range []int{0, 1, 3} {
				room := slices.Concat([]api.Msg{free(70, 0)}, l, []api.Msg{free(71, 0), taken(72, 0), free(73, 0)}[:spare])
				was := slices.Clone(room)
				given := room[1 : 1+len(l)]
				queue.Find(given, m.Id)
				queue.Least(given)
				queue.Match(given, m.Corr)
				queue.Rises(given)
				for name, got := range lists(given, m) {
					fill(got)
					if !slices.Equal(room, was) {
						t.Fatalf("%s of %+v, %+v shares what was handed in, or changes it: %+v", name, l, m, room)
					}
				}
			}
		}
	}
}

// What was handed in is not kept: it changes, and no answer does.
func TestP1502NotKept(t *testing.T) {
	for _, l := range allLists(fewMsgs(), 3) {
		for _, m := range append(fewMsgs(), free(9, 9)) {
			given := append(slices.Clone(l), free(71, 0), taken(72, 0))[:len(l)]
			got, want := lists(given, m), lists(slices.Clone(l), m)
			fill(given)
			for name := range want {
				if !slices.Equal(got[name], want[name]) {
					t.Fatalf("%s of %+v, %+v changes with what was handed in: %+v", name, l, m, got[name])
				}
			}
		}
	}
}

// No two answers share memory.
func TestP1502AnswersAreNewMemory(t *testing.T) {
	for _, l := range allLists(fewMsgs(), 3) {
		for _, m := range append(fewMsgs(), free(9, 9)) {
			want := lists(slices.Clone(l), m)
			for changed := range want {
				got, again := lists(l, m), lists(l, m)
				fill(got[changed])
				for name := range want {
					if name != changed && !slices.Equal(got[name], want[name]) {
						t.Fatalf("%+v, %+v: %s changes with %s", l, m, name, changed)
					}
					if !slices.Equal(again[name], want[name]) {
						t.Fatalf("%+v, %+v: %s of two calls is shared", l, m, name)
					}
				}
			}
		}
	}
}

// nil, an empty list, and one whose room lies ready mean the same.
func TestP1502Nil(t *testing.T) {
	some := []api.Msg{free(1, 0), free(2, 0)}
	for _, l := range [][]api.Msg{nil, {}, make([]api.Msg, 0, 4), some[:0], some[2:]} {
		for _, m := range slices.Concat(fewMsgs(), farMsgs()) {
			if wrong := as(l, m); wrong != "" {
				t.Error(wrong)
			}
			if queue.Find(l, m.Id) != -1 || queue.Match(l, m.Corr) != -1 {
				t.Errorf("%+v is found in nothing", m)
			}
		}
		if queue.Least(l) != -1 || !queue.Rises(l) {
			t.Error("nothing has a Least, or does not rise")
		}
	}
}

// Many at once, with one list: each one is told what it was told alone.
func TestP1502HangsOnArguments(t *testing.T) {
	l := []api.Msg{taken(1, -1), free(4, 0), free(4, 0), matched(free(5, 0), "c"), free(2, -9)}[:4]
	tell := func() string {
		var b strings.Builder
		for _, m := range append(fewMsgs(), free(4, 0), matched(free(5, 0), "c"), free(9, 9)) {
			fmt.Fprint(&b, lists(l, m), queue.Find(l, m.Id), queue.Least(l), queue.Match(l, m.Corr), queue.Rises(l), queue.Rises(l[:2]))
		}
		return b.String()
	}
	want := tell()
	got := make([]string, 16)
	var workers sync.WaitGroup
	for i := range got {
		workers.Go(func() {
			queue.Add([]api.Msg{free(i, i)}, taken(i, -i))
			got[i] = tell()
		})
	}
	workers.Wait()
	for i := range got {
		if got[i] != want {
			t.Errorf("call %d answers %s, the first one %s", i, got[i], want)
		}
	}
}
