package dead_test

import (
	"fmt"
	"math"
	"math/rand"
	"reflect"
	"slices"
	"strings"
	"sync"
	"testing"

	"poste/api"
	"poste/dead"
	"poste/queue"
)

// free and taken are messages that nobody has and that somebody has.
func free(id, retry int) api.Msg {
	return api.Msg{Id: id, Pri: id, Retry: retry, Corr: fmt.Sprint("c", id), Body: fmt.Sprint("b", id)}
}

func taken(id, retry int) api.Msg {
	m := free(id, retry)
	m.Claimed = true
	return m
}

// with is a queue of these messages.
func with(limit int, msgs, dead []api.Msg) api.Object {
	return api.Object{Name: "q", Kind: api.KQueue, Limit: limit, Msgs: msgs, Dead: dead}
}

// list is the messages that are handed over.
func list(msgs ...api.Msg) []api.Msg { return msgs }

// told is an object as a text: Id:Retry of each message, with a * if it is
// claimed, those of Dead behind a bar.
func told(o api.Object) string {
	var b strings.Builder
	each := func(l []api.Msg) {
		for _, m := range l {
			fmt.Fprintf(&b, "%d:%d", m.Id, m.Retry)
			if m.Claimed {
				b.WriteByte('*')
			}
			b.WriteByte(' ')
		}
	}
	each(o.Msgs)
	b.WriteString("|")
	for _, m := range o.Dead {
		b.WriteByte(' ')
		fmt.Fprintf(&b, "%d:%d", m.Id, m.Retry)
		if m.Claimed {
			b.WriteByte('*')
		}
	}
	return b.String()
}

// same tells whether two objects say the same, nil and an empty list alike.
func same(a, b api.Object) bool {
	return a.Name == b.Name && a.Kind == b.Kind && a.Limit == b.Limit &&
		slices.Equal(a.Rows, b.Rows) && slices.Equal(a.Msgs, b.Msgs) && slices.Equal(a.Dead, b.Dead)
}

// plainTried is the sentence of P1401 on Tried.
func plainTried(m api.Msg, limit int) (api.Msg, bool) {
	m.Claimed = false
	if m.Retry >= 1000 {
		m.Retry = 1000
	} else {
		m.Retry++
	}
	return m, m.Retry >= limit
}

// plainFree lays the messages one by one.
func plainFree(o api.Object, id int, tried bool) (api.Object, bool) {
	want := o
	want.Msgs, want.Dead = nil, nil
	var gone []api.Msg
	met, freed := false, false
	for _, m := range o.Msgs {
		first := !met && m.Id == id
		if first {
			met, freed = true, m.Claimed
		}
		over := false
		switch {
		case first && freed && tried:
			m, over = plainTried(m, o.Limit)
		case first && freed:
			m.Claimed = false
		}
		if over {
			gone = append(gone, m)
		} else {
			want.Msgs = append(want.Msgs, m)
		}
	}
	want.Dead = append(append(want.Dead, o.Dead...), gone...)
	return want, freed
}

// plainWhere looks at all messages, those of Msgs last.
func plainWhere(o api.Object, id int) int {
	where := 0
	for _, m := range o.Dead {
		if m.Id == id {
			where = 2
		}
	}
	for _, m := range o.Msgs {
		if m.Id == id {
			where = 1
		}
	}
	return where
}

// as checks both calls with this object and Id against the plain ones.
func as(o api.Object, id int) string {
	for _, tried := range []bool{false, true} {
		got, ok := dead.Free(o, id, tried)
		if want, wok := plainFree(o, id, tried); !same(got, want) || ok != wok {
			return fmt.Sprintf("Free(%+v, %d, %t): %+v, %t, want %+v, %t", o, id, tried, got, ok, want, wok)
		}
	}
	if got, want := dead.Where(o, id), plainWhere(o, id); got != want {
		return fmt.Sprintf("Where(%+v, %d): %d, want %d", o, id, got, want)
	}
	return ""
}

// allLists are all lists of at most n of these messages; the Body tells the
// place.
func allLists(msgs []api.Msg, n int) [][]api.Msg {
	all := [][]api.Msg{nil}
	last := all
	for range n {
		var longer [][]api.Msg
		for _, l := range last {
			for _, m := range msgs {
				m.Body = fmt.Sprint("at", len(l))
				longer = append(longer, append(slices.Clone(l), m))
			}
		}
		all = append(all, longer...)
		last = longer
	}
	return all
}

func TestP1601FreeNotTried(t *testing.T) {
	o := with(2, list(free(1, 0), taken(2, 0), taken(3, 1), free(4, 1), taken(5, 7)), list(free(6, 2)))
	for _, x := range []struct {
		id   int
		want string
		ok   bool
	}{
		{2, "1:0 2:0 3:1* 4:1 5:7* | 6:2", true},
		{3, "1:0 2:0* 3:1 4:1 5:7* | 6:2", true},
		{5, "1:0 2:0* 3:1* 4:1 5:7 | 6:2", true}, // over Limit, but not tried
		{1, "1:0 2:0* 3:1* 4:1 5:7* | 6:2", false},
		{4, "1:0 2:0* 3:1* 4:1 5:7* | 6:2", false},
		{6, "1:0 2:0* 3:1* 4:1 5:7* | 6:2", false},
		{7, "1:0 2:0* 3:1* 4:1 5:7* | 6:2", false},
		{0, "1:0 2:0* 3:1* 4:1 5:7* | 6:2", false},
		{-2, "1:0 2:0* 3:1* 4:1 5:7* | 6:2", false},
	} {
		if got, ok := dead.Free(o, x.id, false); told(got) != x.want || ok != x.ok {
			t.Errorf("Free of %d: %s, %t, want %s, %t", x.id, told(got), ok, x.want, x.ok)
		}
	}
}

func TestP1601FreeTried(t *testing.T) {
	o := with(3, list(free(1, 0), taken(2, 0), taken(3, 1), taken(4, 2), free(5, 2), taken(6, 3)), list(free(7, 3), free(8, 3)))
	for _, x := range []struct {
		id   int
		want string
		ok   bool
	}{
		{2, "1:0 2:1 3:1* 4:2* 5:2 6:3* | 7:3 8:3", true},
		{3, "1:0 2:0* 3:2 4:2* 5:2 6:3* | 7:3 8:3", true},
		{4, "1:0 2:0* 3:1* 5:2 6:3* | 7:3 8:3 4:3", true},
		{6, "1:0 2:0* 3:1* 4:2* 5:2 | 7:3 8:3 6:4", true},
		{1, "1:0 2:0* 3:1* 4:2* 5:2 6:3* | 7:3 8:3", false},
		{5, "1:0 2:0* 3:1* 4:2* 5:2 6:3* | 7:3 8:3", false},
		{7, "1:0 2:0* 3:1* 4:2* 5:2 6:3* | 7:3 8:3", false},
		{9, "1:0 2:0* 3:1* 4:2* 5:2 6:3* | 7:3 8:3", false},
		{math.MinInt, "1:0 2:0* 3:1* 4:2* 5:2 6:3* | 7:3 8:3", false},
		{math.MaxInt, "1:0 2:0* 3:1* 4:2* 5:2 6:3* | 7:3 8:3", false},
		{4 + 1<<32, "1:0 2:0* 3:1* 4:2* 5:2 6:3* | 7:3 8:3", false},
	} {
		if got, ok := dead.Free(o, x.id, true); told(got) != x.want || ok != x.ok {
			t.Errorf("Free of %d: %s, %t, want %s, %t", x.id, told(got), ok, x.want, x.ok)
		}
	}
}

// The Limit is met from below, hit, and passed; any number may be there.
func TestP1601FreeAtTheLimit(t *testing.T) {
	for _, x := range []struct {
		retry, limit int
		want         string
	}{
		{0, 1, "| 5:1"}, {0, 2, "5:1 |"}, {1, 2, "| 5:2"}, {2, 2, "| 5:3"}, {9, 2, "| 5:10"}, {8, 10, "5:9 |"}, {9, 10, "| 5:10"},
		{998, 1000, "5:999 |"}, {999, 1000, "| 5:1000"}, {1000, 1000, "| 5:1000"}, {1000, 1001, "5:1000 |"}, {999, 1001, "5:1000 |"},
		{1000, math.MaxInt, "5:1000 |"}, {0, 0, "| 5:1"}, {0, -1, "| 5:1"}, {0, math.MinInt, "| 5:1"},
		{-1, 1, "5:0 |"}, {-1, 0, "| 5:0"}, {-5, -4, "| 5:-4"}, {-5, -3, "5:-4 |"},
		{math.MaxInt, 1000, "| 5:1000"}, {math.MaxInt, 1001, "5:1000 |"},
		{math.MinInt, 0, fmt.Sprintf("5:%d |", math.MinInt+1)}, {math.MinInt, math.MinInt, fmt.Sprintf("| 5:%d", math.MinInt+1)},
	} {
		got, ok := dead.Free(with(x.limit, list(taken(5, x.retry)), nil), 5, true)
		if told(got) != x.want || !ok {
			t.Errorf("Free of Retry %d, Limit %d: %s, %t, want %s", x.retry, x.limit, told(got), ok, x.want)
		}
		got, ok = dead.Free(with(x.limit, list(taken(5, x.retry)), nil), 5, false)
		if want := fmt.Sprintf("5:%d |", x.retry); told(got) != want || !ok {
			t.Errorf("Free, not tried, of Retry %d, Limit %d: %s, %t, want %s", x.retry, x.limit, told(got), ok, want)
		}
	}
}

// Where an Id is there more than once, only the first counts.
func TestP1601FreeOfTheFirst(t *testing.T) {
	for _, x := range []struct {
		msgs  []api.Msg
		tried bool
		want  string
		ok    bool
	}{
		{list(free(1, 0), taken(1, 0)), false, "1:0 1:0* |", false},
		{list(free(1, 0), taken(1, 0)), true, "1:0 1:0* |", false},
		{list(taken(1, 0), taken(1, 5)), false, "1:0 1:5* |", true},
		{list(taken(1, 0), taken(1, 5)), true, "1:1 1:5* |", true},
		{list(taken(1, 5), taken(1, 0)), true, "1:0* | 1:6", true},
		{list(free(2, 0), taken(1, 5), free(1, 5), taken(1, 5), taken(2, 0)), true, "2:0 1:5 1:5* 2:0* | 1:6", true},
	} {
		if got, ok := dead.Free(with(3, x.msgs, nil), 1, x.tried); told(got) != x.want || ok != x.ok {
			t.Errorf("Free in %s, %t: %s, %t, want %s, %t", told(with(3, x.msgs, nil)), x.tried, told(got), ok, x.want, x.ok)
		}
	}
}

// Nothing in Dead is freed, nor does it keep what comes behind it from coming.
func TestP1601FreeBesideDead(t *testing.T) {
	for _, x := range []struct {
		o     api.Object
		tried bool
		want  string
		ok    bool
	}{
		{with(1, nil, list(taken(1, 0))), false, "| 1:0*", false},
		{with(1, nil, list(taken(1, 0))), true, "| 1:0*", false},
		{with(1, list(free(1, 0)), list(taken(1, 0))), false, "1:0 | 1:0*", false},
		{with(1, list(taken(1, 0)), list(taken(1, 4), free(1, 3))), true, "| 1:4* 1:3 1:1", true},
		{with(1, list(taken(1, 0)), list(taken(1, 4), free(1, 3))), false, "1:0 | 1:4* 1:3", true},
		{with(1, list(taken(1, 0)), list(free(9, 1), free(8, 1))), true, "| 9:1 8:1 1:1", true}, // as they came, not by Id
	} {
		if got, ok := dead.Free(x.o, 1, x.tried); told(got) != x.want || ok != x.ok {
			t.Errorf("Free in %s, %t: %s, %t, want %s, %t", told(x.o), x.tried, told(got), ok, x.want, x.ok)
		}
	}
}

// A message stays where it is, also where messages do not rise, and all of it
// but Retry and Claimed stays as it is.
func TestP1601FreeTurnsNothingElse(t *testing.T) {
	m := api.Msg{Id: 4, Pri: 9, Retry: 3, Claimed: true, Corr: strings.Repeat("c", 500), Body: strings.Repeat("\xff", 5000)}
	l := list(taken(8, 1), api.Msg{Id: 1, Pri: 99, Claimed: true}, m, free(2, 0), api.Msg{Id: 3, Pri: -99})
	for _, kind := range []int{api.KQueue, api.KTable, 0, -1, 99, math.MinInt} {
		o := api.Object{
			Name: strings.Repeat("n", 300), Kind: kind, Rows: []api.Row{{Key: "b"}, {Key: "a", Value: "v"}, {}},
			Msgs: l, Dead: list(free(7, 5)),
		}
		for limit, tried := range map[int]bool{3: false, 4: true, 5: true} {
			o.Limit = limit
			want := o
			back := m
			back.Claimed = false
			if tried {
				back.Retry = 4
			}
			if limit == 4 {
				want.Msgs, want.Dead = list(l[0], l[1], l[3], l[4]), list(o.Dead[0], back)
			} else {
				want.Msgs = list(l[0], l[1], back, l[3], l[4])
			}
			if got, ok := dead.Free(o, 4, tried); !ok || !same(got, want) {
				t.Errorf("Free, Kind %d, Limit %d: %s", kind, limit, told(got))
			}
			if got, ok := dead.Free(o, 2, tried); ok || !same(got, o) {
				t.Errorf("Free of one that nobody has, Kind %d, Limit %d: %s", kind, limit, told(got))
			}
		}
	}
}

func TestP1601Where(t *testing.T) {
	o := with(1, list(free(1, 0), taken(2, 0), free(3, 0)), list(free(4, 1), taken(5, 1), free(3, 1), free(6, 1)))
	for _, x := range []struct {
		o        api.Object
		id, want int
	}{
		{api.Object{}, 0, 0}, {api.Object{}, 1, 0}, {with(1, nil, nil), 1, 0}, {with(1, list(), list()), -1, 0},
		{o, 1, 1}, {o, 2, 1}, {o, 3, 1}, {o, 4, 2}, {o, 5, 2}, {o, 6, 2},
		{o, 0, 0}, {o, 7, 0}, {o, -1, 0}, {o, math.MinInt, 0}, {o, math.MaxInt, 0}, {o, 1 + 1<<32, 0},
		{with(0, list(api.Msg{}), nil), 0, 1}, {with(0, nil, list(api.Msg{})), 0, 2}, {with(0, list(api.Msg{}), list(api.Msg{})), 0, 1},
		{with(0, list(free(math.MinInt, 0)), list(free(math.MaxInt, 0))), math.MinInt, 1},
		{with(0, list(free(math.MinInt, 0)), list(free(math.MaxInt, 0))), math.MaxInt, 2},
		{api.Object{Kind: api.KTable, Msgs: list(free(1, 0)), Dead: list(free(2, 0))}, 1, 1},
		{api.Object{Kind: api.KTable, Msgs: list(free(1, 0)), Dead: list(free(2, 0))}, 2, 2},
		{api.Object{Rows: []api.Row{{Key: "1", Value: "1"}}}, 1, 0},
	} {
		if got := dead.Where(x.o, x.id); got != x.want {
			t.Errorf("Where of %d in %s: %d, want %d", x.id, told(x.o), got, x.want)
		}
	}
}

func TestP1601Exhaustively(t *testing.T) {
	msgs := allLists(list(free(1, 0), taken(1, 0), taken(1, 1), taken(2, 1), free(2, 3), taken(3, 1000)), 4)
	gone := allLists(list(free(1, 1), taken(2, 0), free(4, 9)), 2)
	for _, m := range msgs {
		for _, d := range gone {
			for _, limit := range []int{-1, 1, 2, 1000, 1001} {
				for id := range 6 {
					if wrong := as(with(limit, m, d), id); wrong != "" {
						t.Fatal(wrong)
					}
				}
			}
		}
	}
}

// farMsgs are messages of numbers at the ends, and of texts that are not short.
func farMsgs() []api.Msg {
	return list(
		api.Msg{}, taken(math.MinInt, math.MinInt), taken(math.MaxInt, math.MaxInt), taken(math.MaxInt, math.MaxInt-1), taken(-1, -1),
		api.Msg{Claimed: true, Corr: strings.Repeat("c", 1000), Body: "\x00"}, taken(1<<32, 999), taken(0, 1001),
	)
}

func TestP1601FarNumbers(t *testing.T) {
	for _, l := range allLists(farMsgs(), 3) {
		for _, limit := range []int{math.MinInt, -1, 0, 1, 999, 1000, 1001, math.MaxInt} {
			for _, m := range farMsgs() {
				if wrong := as(with(limit, l, l[len(l)/2:]), m.Id); wrong != "" {
					t.Fatal(wrong)
				}
			}
		}
	}
}

// fate is what is told of a message beside: where it is, how often it was
// tried, and whether somebody has it.
type fate struct {
	where, tries int
	claimed      bool
}

// lives is a queue and what is told of it beside.
type lives struct {
	o    api.Object
	told map[int]fate
	gone []int
}

// step does one deed by chance, on both, and tells what is wrong then.
func (q *lives) step(chance *rand.Rand) string {
	id := 1 + chance.Intn(len(q.told)+1)
	was := q.told[id]
	switch kind := chance.Intn(4); kind {
	case 0:
		id = len(q.told) + 1
		q.o.Msgs = queue.Add(q.o.Msgs, api.Msg{Id: id, Pri: chance.Intn(7) - 3})
		q.told[id] = fate{where: 1}
	case 1:
		if was.where == 1 {
			q.o.Msgs, _ = queue.Claim(q.o.Msgs, id, true)
			was.claimed = true
			q.told[id] = was
		}
	default:
		var ok bool
		q.o, ok = dead.Free(q.o, id, kind == 2)
		if ok != was.claimed {
			return fmt.Sprintf("Free of %d, %+v: %t", id, was, ok)
		}
		q.freed(id, kind == 2)
	}
	return q.wrong()
}

// freed tells it of what is told beside.
func (q *lives) freed(id int, tried bool) {
	f := q.told[id]
	if !f.claimed {
		return
	}
	f.claimed = false
	if tried {
		f.tries++
		if f.tries >= q.o.Limit {
			f.where = 2
			q.gone = append(q.gone, id)
		}
	}
	q.told[id] = f
}

// wrong tells what is not as it should be.
func (q *lives) wrong() string {
	if len(q.o.Msgs)+len(q.o.Dead) != len(q.told) || !queue.Rises(q.o.Msgs) {
		return fmt.Sprintf("%s of %v", told(q.o), q.told)
	}
	for where, l := range [][]api.Msg{1: q.o.Msgs, 2: q.o.Dead} {
		for _, m := range l {
			want := q.told[m.Id]
			if (fate{where, m.Retry, m.Claimed}) != want || dead.Where(q.o, m.Id) != where {
				return fmt.Sprintf("%d is in %d: %+v, want %+v", m.Id, where, m, want)
			}
		}
	}
	for i, m := range q.o.Dead {
		if q.gone[i] != m.Id {
			return fmt.Sprintf("%s, want %v", told(q.o), q.gone)
		}
	}
	return as(q.o, len(q.told)+1)
}

// None is lost and none is there twice, and each one that was tried Limit
// times, and none else, is in Dead.
func TestP1601ByChance(t *testing.T) {
	count := 0
	for seed := range 60 {
		chance := rand.New(rand.NewSource(int64(seed)))
		q := &lives{o: with(1+seed%4, nil, nil), told: map[int]fate{}}
		for range 250 {
			if wrong := q.step(chance); wrong != "" {
				t.Fatalf("seed %d: %s", seed, wrong)
			}
		}
		count += len(q.gone)
	}
	if count < 100 {
		t.Errorf("only %d were set aside", count)
	}
}

// Nothing hangs on how many messages there are.
func TestP1601Many(t *testing.T) {
	const n = 100000
	o := with(2, nil, nil)
	for i := range n {
		o.Msgs = append(o.Msgs, taken(i+1, i%2))
		o.Dead = append(o.Dead, free(n+i+1, 2))
	}
	for _, at := range []int{0, 1, n/2 - 1, n / 2, n - 2, n - 1} {
		if wrong := as(o, at+1); wrong != "" {
			t.Errorf("at %d: other than plain", at)
		}
		if dead.Where(o, at+1) != 1 || dead.Where(o, n+at+1) != 2 || dead.Where(o, 2*n+at+1) != 0 {
			t.Errorf("Where at %d", at)
		}
		got, ok := dead.Free(o, at+1, true)
		if !ok || dead.Where(got, at+1) != 1+at%2 || len(got.Msgs) != n-at%2 || len(got.Dead) != n+at%2 {
			t.Errorf("Free at %d: %t, %d and %d messages", at, ok, len(got.Msgs), len(got.Dead))
		}
	}
}

// fill writes over an object's lists and all of their spare room.
func fill(o api.Object) {
	for _, l := range [][]api.Msg{o.Msgs[:cap(o.Msgs)], o.Dead[:cap(o.Dead)]} {
		for i := range l {
			l[i] = api.Msg{Id: -99, Pri: -99, Retry: -99, Claimed: true, Corr: "fill", Body: "fill"}
		}
	}
	rows := o.Rows[:cap(o.Rows)]
	for i := range rows {
		rows[i] = api.Row{Key: "fill", Value: "fill"}
	}
}

// deep is an object of its own that says the same.
func deep(o api.Object) api.Object {
	o.Rows = append([]api.Row(nil), o.Rows...)
	o.Msgs = append([]api.Msg(nil), o.Msgs...)
	o.Dead = append([]api.Msg(nil), o.Dead...)
	return o
}

// fewObjects are queues of few messages, with some Ids for which Free does
// each thing that it does.
func fewObjects() []api.Object {
	var all []api.Object
	for _, msgs := range allLists(list(free(1, 0), taken(1, 0), taken(2, 1), taken(3, 0)), 3) {
		for _, gone := range allLists(list(free(4, 2), free(1, 2)), 2) {
			o := with(2, msgs, gone)
			o.Rows = []api.Row{{Key: "a", Value: "v"}, {Key: "b"}}[:len(gone)]
			all = append(all, o)
		}
	}
	return all
}

// answers has what all calls of Free answer of an object.
func answers(o api.Object) []api.Object {
	var all []api.Object
	for id := range 5 {
		for _, tried := range []bool{false, true} {
			got, _ := dead.Free(o, id, tried)
			all = append(all, got)
		}
	}
	return all
}

// The lists stand in the middle of greater ones: so a call that writes ahead
// of them, in them, or in their spare room is seen.
func TestP1602WhatIsHandedIn(t *testing.T) {
	for _, o := range fewObjects() {
		for spare := range 3 {
			behind := list(free(71, 0), taken(72, 0))[:spare]
			room := api.Object{
				Rows: slices.Concat([]api.Row{{Key: "c"}}, o.Rows, []api.Row{{Key: "d"}, {Key: "e"}}[:spare]),
				Msgs: slices.Concat(list(free(70, 0)), o.Msgs, behind),
				Dead: slices.Concat(list(free(80, 0)), o.Dead, behind),
			}
			was := deep(room)
			given := o
			given.Rows = room.Rows[1 : 1+len(o.Rows)]
			given.Msgs = room.Msgs[1 : 1+len(o.Msgs)]
			given.Dead = room.Dead[1 : 1+len(o.Dead)]
			dead.Where(given, 1)
			for i, got := range answers(given) {
				if !same(room, was) {
					t.Fatalf("Free %d of %+v changes what was handed in: %+v", i, o, room)
				}
				fill(got)
				if !same(room, was) {
					t.Fatalf("Free %d of %+v shares what was handed in: %+v", i, o, room)
				}
			}
		}
	}
}

// What was handed in is not kept: it changes, and no answer does.
func TestP1602NotKept(t *testing.T) {
	for _, o := range fewObjects() {
		given := deep(o)
		got, want := answers(given), answers(o)
		fill(given)
		for i := range want {
			if !same(got[i], want[i]) {
				t.Fatalf("Free %d of %+v changes with what was handed in: %+v", i, o, got[i])
			}
		}
	}
}

// No two answers share memory, nor do two lists of one.
func TestP1602AnswersAreNewMemory(t *testing.T) {
	for _, o := range fewObjects() {
		want := answers(o)
		for changed := range want {
			got, again := answers(o), answers(o)
			fill(got[changed])
			for i := range want {
				if i != changed && !same(got[i], want[i]) || !same(again[i], want[i]) {
					t.Fatalf("%+v: Free %d changes with %d", o, i, changed)
				}
			}
		}
		for i, got := range answers(o) {
			fill(api.Object{Msgs: got.Msgs})
			if !slices.Equal(got.Dead, want[i].Dead) {
				t.Fatalf("%+v: Dead changes with Msgs", o)
			}
		}
		for i, got := range answers(o) {
			fill(api.Object{Dead: got.Dead})
			if !slices.Equal(got.Msgs, want[i].Msgs) {
				t.Fatalf("%+v: Msgs changes with Dead", o)
			}
		}
	}
}

// One list handed in as both is taken as two.
func TestP1602OneListAsBoth(t *testing.T) {
	for _, l := range allLists(list(free(1, 0), taken(1, 0), taken(2, 1)), 3) {
		both := append(slices.Clone(l), free(9, 9))[:len(l)]
		for id := range 4 {
			if wrong := as(with(2, both, both), id); wrong != "" {
				t.Fatal(wrong)
			}
		}
	}
}

// nil, an empty list, and one whose room lies ready mean the same.
func TestP1602Nil(t *testing.T) {
	some := list(taken(1, 0), free(2, 0))
	empty := [][]api.Msg{nil, {}, make([]api.Msg, 0, 4), some[:0], some[2:]}
	for _, none := range empty {
		for _, other := range empty {
			for _, id := range []int{math.MinInt, -1, 0, 1, 2, math.MaxInt} {
				o := with(1, none, other)
				if wrong := as(o, id); wrong != "" {
					t.Error(wrong)
				}
				if _, ok := dead.Free(o, id, true); ok || dead.Where(o, id) != 0 {
					t.Errorf("%d is found in nothing", id)
				}
			}
			o := with(1, list(taken(1, 0)), other)
			if got, ok := dead.Free(o, 1, true); !ok || told(got) != "| 1:1" {
				t.Errorf("Free beside no Dead: %s, %t", told(got), ok)
			}
		}
	}
	got, ok := dead.Free(api.Object{}, 0, true)
	if ok || !same(got, api.Object{}) {
		t.Errorf("Free of the zero Object: %+v, %t", got, ok)
	}
}

// Many at once, with one object: each one is told what it was told alone.
func TestP1602HangsOnArguments(t *testing.T) {
	o := with(2, list(taken(1, 0), free(2, 0), taken(3, 1), taken(4, 1), free(5, 0))[:4], list(free(6, 2), free(7, 2))[:1])
	want := answers(o)
	got := make([][]api.Object, 16)
	var workers sync.WaitGroup
	for i := range got {
		workers.Go(func() {
			dead.Free(with(i, list(taken(i, i)), nil), i, true)
			got[i] = answers(o)
			if dead.Where(o, 1) != 1 || dead.Where(o, 6) != 2 || dead.Where(o, 7) != 0 {
				t.Error("Where answers otherwise side by side")
			}
		})
	}
	workers.Wait()
	for i := range got {
		if !reflect.DeepEqual(got[i], want) {
			t.Errorf("call %d answers %+v, the first one %+v", i, got[i], want)
		}
	}
}
