package state_test

import (
	"fmt"
	"math"
	"math/rand"
	"slices"
	"strings"
	"testing"

	"poste/api"
	"poste/state"
)

// as checks Apply of these effects against the plain one.
func as(s api.State, l ...api.Effect) string {
	was := deep(s)
	got, err := state.Apply(s, l...)
	if want, werr := plainApply(was, l...); !same(got, want) || err != werr {
		return fmt.Sprintf("Apply(%+v, %+v): %+v, %d, want %+v, %d", was, l, got, err, want, werr)
	}
	if !same(s, was) {
		return fmt.Sprintf("Apply(%+v, %+v) changes what was handed in: %+v", was, l, s)
	}
	return ""
}

// wrongStates are states that are not Right.
func wrongStates() []api.State {
	l := []api.State{{}}
	for _, turn := range []func(s *api.State){
		func(s *api.State) { s.Next = 0 },
		func(s *api.State) { s.Next = 1<<40 + 1 },
		func(s *api.State) { s.Next = 19 },
		func(s *api.State) { s.Objects = append(named(0), s.Objects[1], s.Objects[0]) },
		func(s *api.State) { s.Objects = append(s.Objects, named(16)...) },
		func(s *api.State) { s.Objects[0].Kind = 3 },
		func(s *api.State) { s.Objects[1].Limit = 1001 },
		func(s *api.State) { s.Objects[2].Name = "b" },
		func(s *api.State) { s.Objects[0].Rows[1].Key = "k3" },
		func(s *api.State) { s.Objects[2].Msgs = msgs(free(10, 0, 0)) },
		func(s *api.State) { s.Objects[1].Rows = rowsOf("k", "v") },
		func(s *api.State) { s.Objects[1].Msgs[0].Pri = 9 },
		func(s *api.State) { s.Objects[1].Dead[1].Claimed = true },
		func(s *api.State) { s.Objects[4].Dead[0].Id = 2 },
	} {
		l = append(l, turned(turn))
	}
	return l
}

func TestP1902ApplyOfAStateThatIsNotRight(t *testing.T) {
	for i, s := range wrongStates() {
		for _, l := range [][]api.Effect{nil, {next(1 << 40)}, {table("z")}, {take("z", 1)}, {{}}, {del("a", "none")}} {
			if got, err := state.Apply(s, l...); err != api.ErrArg || !same(got, api.State{}) {
				t.Errorf("state %d, %+v: %+v, %d", i, l, got, err)
			}
		}
	}
}

func TestP1902ApplyOfNothing(t *testing.T) {
	for _, s := range []api.State{{Next: 1}, {Next: 1 << 40}, {Next: 1, Objects: named(20)}, good()} {
		if wrong := as(s); wrong != "" {
			t.Error(wrong)
		}
		if got, err := state.Apply(s); err != api.OK || !same(got, s) {
			t.Errorf("of no effects: %+v, %d", got, err)
		}
	}
}

// becomes tells what an effect makes of the good state: err, or that turned.
func becomes(t *testing.T, what string, e api.Effect, err api.Errno, turn func(s *api.State)) {
	t.Helper()
	want := api.State{}
	if err == api.OK {
		want = turned(turn)
	}
	if got, gerr := state.Apply(good(), e); gerr != err || !same(got, want) {
		t.Errorf("%s: %+v, %d, want %+v, %d", what, got, gerr, want, err)
	}
	if wrong := as(good(), e); wrong != "" {
		t.Errorf("%s: %s", what, wrong)
	}
}

// refused is an effect that the good state refuses.
func refused(t *testing.T, what string, e api.Effect, err api.Errno) {
	t.Helper()
	becomes(t, what, e, err, nil)
}

func TestP1902EffectsThatAreNotRight(t *testing.T) {
	long := strings.Repeat("x", 101)
	for _, e := range []api.Effect{
		{}, {Kind: 9}, {Kind: -1}, {Kind: math.MaxInt, Object: "a"},
		table(""), table(long[:17]), queueOf("z", 0), queueOf("z", 1001), {Kind: api.FMake, Object: "z"}, {Kind: api.FMake, Object: "z", N: api.KTable, Limit: 1},
		put("a", "", ""), put("a", long[:41], ""), put("a", "k", long), del("a", ""), del("a", long[:41]),
		add("b", api.Msg{}), add("b", api.Msg{Id: 10, Pri: 1001}), add("b", api.Msg{Id: 10, Body: long}), add("b", api.Msg{Id: -10}),
		take("b", 0), take("b", 1<<40+1), claim("b", -1), tried("b", 0), giveBack("b", math.MinInt),
		next(0), next(-1), next(1<<40 + 1), {Kind: api.FNext, N: 30, Object: "a"}, {Kind: api.FTake, Object: "b", N: 2, Tried: true},
		{Kind: api.FPut, Object: "a", Key: "k", N: 1}, {Kind: api.FDel, Object: "a", Key: "k1", Value: "v"},
		{Kind: api.FPut, Object: "none", Key: "k", Limit: 1}, {Kind: api.FTake, Object: "a", N: -2}, {Kind: api.FMake, Object: "a", N: 7},
	} {
		refused(t, fmt.Sprintf("%+v", e), e, api.ErrArg)
	}
}

func TestP1902Make(t *testing.T) {
	for _, e := range []api.Effect{table("a"), table("b"), queueOf("a", 1), queueOf("b", 2), queueOf("e", 9)} {
		refused(t, "a name that is there", e, api.ErrTwice)
	}
	for _, x := range []struct {
		name string
		at   int
	}{
		{"\x00", 0}, {"A", 0}, {"a\x00", 1}, {"ab", 1}, {"b0", 2}, {"cc", 3}, {"dz", 4}, {"e\x00", 5}, {"f", 5}, {"\xff\xff", 5}, {strings.Repeat("c", 16), 3},
	} {
		becomes(t, "a table", table(x.name), api.OK, func(s *api.State) {
			s.Objects = slices.Insert(s.Objects, x.at, api.Object{Name: x.name, Kind: 1})
		})
		for _, limit := range []int{1, 7, 1000} {
			becomes(t, "a queue", queueOf(x.name, limit), api.OK, func(s *api.State) {
				s.Objects = slices.Insert(s.Objects, x.at, api.Object{Name: x.name, Kind: 2, Limit: limit})
			})
		}
	}
}

func TestP1902MakeOfMany(t *testing.T) {
	for n := range 21 {
		s := api.State{Next: 1, Objects: named(n)}
		for _, name := range []string{"a", "n000", "n000\x00", fmt.Sprintf("n%03d", n/2), fmt.Sprintf("n%03d-", n/2), "z"} {
			want := api.OK
			if state.Find(s, name) >= 0 {
				want = api.ErrTwice
			} else if n == api.MaxObjects {
				want = api.ErrLong
			}
			for _, e := range effects(table(name), queueOf(name, 5)) {
				if _, err := state.Apply(s, e); err != want {
					t.Errorf("%q beside %d: %d, want %d", name, n, err, want)
				}
				if wrong := as(s, e); wrong != "" {
					t.Error(wrong)
				}
			}
		}
	}
	var all []api.Effect
	for i := range 21 {
		all = append(all, table(fmt.Sprint("t", 99-7*i%20)))
		want := api.OK
		if i == 20 {
			all[20] = queueOf("one more", 1)
			want = api.ErrLong
		}
		if got, err := state.Apply(api.State{Next: 1}, all...); err != want || err == api.OK && !state.Right(got) {
			t.Errorf("%d in turn: %+v, %d", i+1, got, err)
		}
	}
}

// What is no object is told ahead of what is of another kind, and that ahead of
// all else.
func TestP1902NamesAndKinds(t *testing.T) {
	for _, name := range []string{"none", "aa", "a\x00", "B", strings.Repeat("x", 16)} {
		for _, e := range effects(put(name, "k", "v"), del(name, "k"), add(name, free(30, 0, 0)), add(name, free(2, 0, 0)), add(name, free(10, 0, 0)), take(name, 2), claim(name, 4), tried(name, 2), giveBack(name, 2)) {
			refused(t, "no such object", e, api.ErrName)
			if got, err := state.Apply(api.State{Next: 1}, e); err != api.ErrName || !same(got, api.State{}) {
				t.Errorf("without objects, %+v: %d", e, err)
			}
		}
	}
	for _, queue := range []string{"b", "d", "e"} {
		refused(t, "FPut of a queue", put(queue, "k", "v"), api.ErrKind)
		refused(t, "FDel of a queue", del(queue, "none"), api.ErrKind)
	}
	for _, table := range []string{"a", "c"} {
		refused(t, "FAdd of a table", add(table, free(10, 0, 0)), api.ErrKind)
		refused(t, "FAdd of a table, too late an Id", add(table, free(30, 0, 0)), api.ErrKind)
		refused(t, "FAdd of a table, claimed", add(table, taken(10, 0, 0)), api.ErrKind)
		refused(t, "FAdd of a table, an Id that is there", add(table, free(2, 0, 0)), api.ErrKind)
		refused(t, "FTake of a table", take(table, 2), api.ErrKind)
		refused(t, "FClaim of a table", claim(table, 4), api.ErrKind)
		refused(t, "FFree of a table", tried(table, 4), api.ErrKind)
		refused(t, "FFree of a table, not tried", giveBack(table, 99), api.ErrKind)
	}
}

func TestP1902PutAndDel(t *testing.T) {
	for _, x := range []struct {
		key  string
		at   int
		over bool
	}{
		{"k1", 0, true}, {"k2", 1, true}, {"k3", 2, true}, {"k", 0, false}, {"\x00", 0, false}, {"k1\x00", 1, false}, {"k10", 1, false}, {"k2z", 2, false}, {"k4", 3, false}, {"\xff", 3, false}, {strings.Repeat("z", 40), 3, false},
	} {
		for _, value := range []string{"", "new", "v1", strings.Repeat("w", 100)} {
			becomes(t, "FPut of "+x.key, put("a", x.key, value), api.OK, func(s *api.State) {
				if x.over {
					s.Objects[0].Rows[x.at].Value = value
				} else {
					s.Objects[0].Rows = slices.Insert(s.Objects[0].Rows, x.at, api.Row{Key: x.key, Value: value})
				}
			})
		}
		if x.over {
			becomes(t, "FDel of "+x.key, del("a", x.key), api.OK, func(s *api.State) {
				s.Objects[0].Rows = slices.Delete(s.Objects[0].Rows, x.at, x.at+1)
			})
		} else {
			refused(t, "FDel of "+x.key, del("a", x.key), api.ErrNone)
		}
	}
	becomes(t, "the first row", put("c", "k", "v"), api.OK, func(s *api.State) { s.Objects[2].Rows = rowsOf("k", "v") })
	refused(t, "FDel of an empty table", del("c", "k1"), api.ErrNone)
}

func TestP1902Add(t *testing.T) {
	for _, x := range []struct {
		pri, at int
	}{
		{-1000, 0}, {-6, 0}, {-5, 1}, {-4, 1}, {-1, 1}, {0, 4}, {1, 4}, {7, 4}, {8, 5}, {9, 5}, {1000, 5},
	} {
		for _, id := range []int{10, 18} {
			m := free(id, x.pri, 3)
			becomes(t, fmt.Sprintf("FAdd of %d, Pri %d", id, x.pri), add("b", m), api.OK, func(s *api.State) {
				s.Objects[1].Msgs = slices.Insert(s.Objects[1].Msgs, x.at, m)
			})
		}
	}
	s := good()
	s.Next = 31
	s.Objects[1].Msgs[1].Id, s.Objects[1].Msgs[2].Id, s.Objects[1].Msgs[3].Id = 12, 24, 27
	for id, at := range map[int]int{10: 1, 11: 1, 13: 2, 23: 2, 25: 3, 26: 3, 28: 4, 30: 4} {
		got, err := state.Apply(s, add("b", free(id, 0, 0)))
		if err != api.OK || got.Objects[1].Msgs[at].Id != id {
			t.Errorf("FAdd of %d among those of its Pri: %+v, %d", id, got, err)
		}
	}
	becomes(t, "the first message", add("e", api.Msg{Id: 10}), api.OK, func(s *api.State) { s.Objects[4].Msgs = msgs(api.Msg{Id: 10}) })
}

// In whichever queue an Id is, and in whichever list: no queue takes it again.
func TestP1902AddRefused(t *testing.T) {
	for _, queue := range []string{"b", "d", "e"} {
		for id := 1; id <= 45; id++ {
			there := id <= 9 || id == 19
			want := api.OK
			switch {
			case id >= 20:
				want = api.ErrArg
			case there:
				want = api.ErrTwice
			}
			if _, err := state.Apply(good(), add(queue, free(id, 2, 0))); err != want {
				t.Errorf("FAdd of %d to %s: %d, want %d", id, queue, err, want)
			}
			refused(t, "claimed", add(queue, taken(id, 2, 0)), api.ErrArg)
			if wrong := as(good(), add(queue, free(id, 2, 0))); wrong != "" {
				t.Error(wrong)
			}
		}
		refused(t, "the greatest Id", add(queue, free(1<<40, 0, 0)), api.ErrArg)
	}
	if _, err := state.Apply(good(), take("b", 2), add("d", free(2, 0, 0))); err != api.OK {
		t.Errorf("FAdd of what was taken: %d", err)
	}
	if _, err := state.Apply(good(), tried("b", 4), add("d", free(4, 0, 0))); err != api.ErrTwice {
		t.Errorf("FAdd of what was set aside: %d", err)
	}
}

func TestP1902Take(t *testing.T) {
	for at, id := range []int{9, 2, 4, 7, 3} {
		becomes(t, "FTake", take("b", id), api.OK, func(s *api.State) {
			s.Objects[1].Msgs = slices.Delete(s.Objects[1].Msgs, at, at+1)
		})
	}
	for _, id := range []int{1, 5, 6, 8, 10, 19, 20, 1 << 33, 1<<32 + 9, 1 << 40} {
		refused(t, fmt.Sprint("FTake of ", id), take("b", id), api.ErrNone)
	}
	refused(t, "FTake of Dead", take("e", 5), api.ErrNone)
}

func TestP1902Claim(t *testing.T) {
	for at, id := range []int{9, 2, 4, 7, 3} {
		if good().Objects[1].Msgs[at].Claimed {
			refused(t, fmt.Sprint("FClaim of ", id), claim("b", id), api.ErrState)
			continue
		}
		becomes(t, fmt.Sprint("FClaim of ", id), claim("b", id), api.OK, func(s *api.State) { s.Objects[1].Msgs[at].Claimed = true })
	}
	for _, id := range []int{1, 5, 6, 8, 10, 19, 20, 1 << 33, 1 << 40} {
		refused(t, fmt.Sprint("FClaim of ", id), claim("b", id), api.ErrNone)
	}
	refused(t, "FClaim of Dead", claim("e", 5), api.ErrNone)
}

func TestP1902Free(t *testing.T) {
	for at, id := range []int{9, 2, 4, 7, 3} {
		if !good().Objects[1].Msgs[at].Claimed {
			refused(t, fmt.Sprint("FFree of ", id), tried("b", id), api.ErrNone)
			refused(t, fmt.Sprint("FFree of ", id), giveBack("b", id), api.ErrNone)
			continue
		}
		becomes(t, fmt.Sprint("FFree, not tried, of ", id), giveBack("b", id), api.OK, func(s *api.State) { s.Objects[1].Msgs[at].Claimed = false })
	}
	for _, id := range []int{1, 5, 6, 8, 10, 19, 20, 1 << 33, 1 << 40} {
		refused(t, fmt.Sprint("FFree of ", id), tried("b", id), api.ErrNone)
		refused(t, fmt.Sprint("FFree of ", id), giveBack("b", id), api.ErrNone)
	}
	becomes(t, "tried once", tried("b", 9), api.OK, func(s *api.State) { s.Objects[1].Msgs[0] = free(9, -5, 1) })
	becomes(t, "tried Limit times", tried("b", 4), api.OK, func(s *api.State) {
		b := &s.Objects[1]
		b.Msgs, b.Dead = slices.Delete(b.Msgs, 2, 3), append(b.Dead, free(4, 0, 2))
	})
	becomes(t, "tried more often than that", tried("b", 7), api.OK, func(s *api.State) {
		b := &s.Objects[1]
		b.Msgs, b.Dead = slices.Delete(b.Msgs, 3, 4), append(b.Dead, free(7, 0, 8))
	})
	becomes(t, "tried 1000 times", tried("d", 8), api.OK, func(s *api.State) {
		s.Objects[3].Msgs, s.Objects[3].Dead = s.Objects[3].Msgs[1:], msgs(free(8, 0, 1000))
	})
	becomes(t, "tried 999 times", tried("d", 19), api.OK, func(s *api.State) { s.Objects[3].Msgs[1] = free(19, 0, 999) })
	full := turned(func(s *api.State) { s.Objects[1].Msgs[0].Retry = 1000 })
	if wrong := as(full, tried("b", 9)); wrong != "" {
		t.Error(wrong)
	}
	if got, err := state.Apply(full, tried("b", 9)); err != api.OK || got.Objects[1].Dead[2] != free(9, -5, 1000) {
		t.Errorf("tried more than 1000 times: %+v, %d", got, err)
	}
}

func TestP1902Next(t *testing.T) {
	for _, n := range []int{1, 2, 18, 19} {
		refused(t, fmt.Sprint("FNext of ", n), next(n), api.ErrArg)
	}
	for _, n := range []int{20, 21, 1 << 32, 1<<40 - 1, 1 << 40} {
		becomes(t, fmt.Sprint("FNext of ", n), next(n), api.OK, func(s *api.State) { s.Next = n })
	}
	top := api.State{Next: 1 << 40}
	for n, want := range map[int]api.Errno{1: api.ErrArg, 1<<40 - 1: api.ErrArg, 1 << 40: api.OK, 1<<40 + 1: api.ErrArg} {
		if _, err := state.Apply(top, next(n)); err != want {
			t.Errorf("FNext of %d behind the greatest: %d", n, err)
		}
	}
}

// What is in turn finds what those ahead of it did.
func TestP1902InTurn(t *testing.T) {
	for _, x := range []struct {
		what string
		l    []api.Effect
		want api.Errno
	}{
		{"a row of a new table", effects(table("n"), put("n", "k", "v"), del("n", "k")), api.OK},
		{"a row of a table to come", effects(put("n", "k", "v"), table("n")), api.ErrName},
		{"a new object twice", effects(table("n"), queueOf("n", 1)), api.ErrTwice},
		{"a row twice deleted", effects(del("a", "k1"), del("a", "k1")), api.ErrNone},
		{"a row put and deleted", effects(put("a", "n", ""), del("a", "n"), put("a", "n", "")), api.OK},
		{"a new number", effects(next(21), add("b", free(20, 0, 0))), api.OK},
		{"a number to come", effects(add("b", free(20, 0, 0)), next(21)), api.ErrArg},
		{"a number twice", effects(next(22), next(21)), api.ErrArg},
		{"a message twice", effects(add("b", free(10, 0, 0)), add("d", free(10, 0, 0))), api.ErrTwice},
		{"added, claimed, freed, taken", effects(add("e", free(10, 0, 0)), claim("e", 10), giveBack("e", 10), claim("e", 10), take("e", 10)), api.OK},
		{"added, claimed, tried", effects(add("e", free(10, 0, 0)), claim("e", 10), tried("e", 10)), api.OK},
		{"set aside, then taken", effects(add("e", free(10, 0, 0)), claim("e", 10), tried("e", 10), take("e", 10)), api.ErrNone},
		{"claimed twice", effects(claim("b", 2), claim("b", 2)), api.ErrState},
		{"freed twice", effects(giveBack("b", 4), giveBack("b", 4)), api.ErrNone},
		{"taken twice", effects(take("b", 4), take("b", 4)), api.ErrNone},
		{"tried twice", effects(tried("b", 9), claim("b", 9), tried("b", 9), tried("b", 4)), api.OK},
	} {
		if _, err := state.Apply(good(), x.l...); err != x.want {
			t.Errorf("%s: %d, want %d", x.what, err, x.want)
		}
		if wrong := as(good(), x.l...); wrong != "" {
			t.Errorf("%s: %s", x.what, wrong)
		}
	}
}

// All or none: whichever of many fails, nothing is told of those ahead of it,
// and those behind it are not looked at.
func TestP1902AllOrNone(t *testing.T) {
	fine := effects(table("n"), put("a", "n", "v"), del("a", "k1"), next(30), add("d", free(25, 0, 0)), take("b", 2), claim("b", 3), tried("b", 4), giveBack("b", 7))
	if wrong := as(good(), fine...); wrong != "" {
		t.Error(wrong)
	}
	bad := []struct {
		e   api.Effect
		err api.Errno
	}{
		{api.Effect{}, api.ErrArg}, {next(19), api.ErrArg}, {table("b"), api.ErrTwice}, {take("x", 3), api.ErrName}, {take("a", 3), api.ErrKind}, {take("b", 1), api.ErrNone}, {claim("b", 9), api.ErrState}, {add("e", free(8, 0, 0)), api.ErrTwice},
	}
	for i, x := range bad {
		for at := range len(fine) + 1 {
			l := slices.Concat(fine[:at], effects(x.e), fine[at:])
			if got, err := state.Apply(good(), l...); err != x.err || !same(got, api.State{}) {
				t.Errorf("%+v at %d: %+v, %d", x.e, at, got, err)
			}
			for _, other := range bad[i+1:] {
				if _, err := state.Apply(good(), slices.Concat(l, effects(other.e))...); err != x.err {
					t.Errorf("%+v at %d, then %+v: %d", x.e, at, other.e, err)
				}
				if _, err := state.Apply(good(), slices.Concat(effects(other.e), l)...); err != other.err {
					t.Errorf("%+v, then %+v: %d", other.e, x.e, err)
				}
			}
		}
	}
	full := turned(func(s *api.State) { s.Objects = append(s.Objects, namedFrom("f", 15)...) })
	if got, err := state.Apply(full, put("a", "n", "v"), table("z")); err != api.ErrLong || !same(got, api.State{}) {
		t.Errorf("one object more than may be: %+v, %d", got, err)
	}
}

// namedFrom are n tables, whose names rise and begin so.
func namedFrom(begin string, n int) []api.Object {
	l := named(n)
	for i := range l {
		l[i].Name = begin + l[i].Name
	}
	return l
}

// few are effects that get into each other's way.
func few() []api.Effect {
	return effects(
		table("q"), queueOf("q", 2), queueOf("p", 1), put("t", "k", "1"), put("t", "k", "2"), put("t", "j", ""), del("t", "k"),
		next(3), next(4), add("q", api.Msg{Id: 2}), add("p", api.Msg{Id: 2, Pri: -1}), add("q", api.Msg{Id: 3, Retry: 1}), add("q", api.Msg{Id: 1, Claimed: true}),
		take("q", 2), claim("q", 2), claim("q", 3), tried("q", 2), tried("q", 3), giveBack("q", 2), take("t", 2), put("q", "k", ""), api.Effect{},
	)
}

// All runs of up to four of these, from few states on, each as far as its first
// error (behind one that fails at once, one more).
func TestP1902AllShortRuns(t *testing.T) {
	first := []api.State{
		{Next: 1},
		{Next: 3, Objects: objects(api.Object{Name: "q", Kind: 2, Limit: 2, Msgs: msgs(api.Msg{Id: 2, Claimed: true, Retry: 1})}, api.Object{Name: "t", Kind: 1})},
		{Next: 4, Objects: objects(api.Object{Name: "p", Kind: 2, Limit: 1}, api.Object{Name: "q", Kind: 2, Limit: 1}, api.Object{Name: "t", Kind: 1, Rows: rowsOf("k", "")})},
	}
	for _, s := range first {
		var walk func(l []api.Effect)
		walk = func(l []api.Effect) {
			if wrong := as(s, l...); wrong != "" {
				t.Fatal(wrong)
			}
			if _, err := plainApply(s, l...); len(l) == 4 || err != api.OK && len(l) > 1 {
				return
			}
			for _, e := range few() {
				walk(append(slices.Clone(l), e))
			}
		}
		walk(nil)
	}
}

// chosen is an effect by chance, on few things, more often fit than not.
func chosen(chance *rand.Rand, s api.State) api.Effect {
	name := string(rune('a' + chance.Intn(5)))
	key := string(rune('k' + chance.Intn(4)))
	id := 1 + chance.Intn(s.Next+1)
	if at := state.Find(s, name); at >= 0 && len(s.Objects[at].Msgs) > 0 && chance.Intn(3) > 0 {
		id = s.Objects[at].Msgs[chance.Intn(len(s.Objects[at].Msgs))].Id
	}
	switch chance.Intn(16) {
	case 0:
		return table(name)
	case 1:
		return queueOf(name, 1+chance.Intn(3))
	case 2, 3:
		return put(name, key, fmt.Sprint(chance.Intn(9)))
	case 4:
		return del(name, key)
	case 5, 6:
		return next(s.Next + chance.Intn(4) - chance.Intn(2))
	case 7, 8, 9:
		return add(name, api.Msg{Id: max(1, s.Next-chance.Intn(3)), Pri: chance.Intn(3), Retry: chance.Intn(2), Claimed: chance.Intn(9) == 0, Corr: "c"})
	case 10:
		return take(name, id)
	case 11, 12:
		return claim(name, id)
	case 13, 14:
		return tried(name, id)
	}
	return giveBack(name, id)
}

// A state that was Right stays so, whatever is applied to it, and all at once
// does what one by one does.
func TestP1902ByChance(t *testing.T) {
	count := map[api.Errno]int{}
	kinds := map[int]int{}
	for seed := range 150 {
		chance := rand.New(rand.NewSource(int64(seed)))
		first := api.State{Next: 1}
		s := first
		var done []api.Effect
		for range 150 {
			e := chosen(chance, s)
			if wrong := as(s, e); wrong != "" {
				t.Fatalf("seed %d: %s", seed, wrong)
			}
			got, err := state.Apply(s, e)
			if count[err]++; err != api.OK {
				continue
			}
			if !state.Right(got) {
				t.Fatalf("seed %d: %+v of %+v is not Right: %+v", seed, e, s, got)
			}
			s, done = got, append(done, e)
			kinds[e.Kind]++
			if wrong := asked(s); wrong != "" {
				t.Fatalf("seed %d: %s", seed, wrong)
			}
		}
		if all, err := state.Apply(first, done...); err != api.OK || !same(all, s) {
			t.Fatalf("seed %d: all at once %+v, %d, one by one %+v", seed, all, err, s)
		}
	}
	for _, err := range []api.Errno{api.OK, api.ErrArg, api.ErrName, api.ErrTwice, api.ErrKind, api.ErrNone, api.ErrState} {
		if count[err] < 50 {
			t.Errorf("only %d answers %d: %v", count[err], err, count)
		}
	}
	for kind := api.FMake; kind <= api.FNext; kind++ {
		if kinds[kind] < 50 {
			t.Errorf("only %d effects of kind %d: %v", kinds[kind], kind, kinds)
		}
	}
}

// asked checks all that can be asked of a state.
func asked(s api.State) string {
	if got, want := state.Size(s), plainSize(s); got != want {
		return fmt.Sprintf("Size(%+v): %d, want %d", s, got, want)
	}
	if got, want := state.Claims(s), plainClaims(s); !slices.Equal(got, want) {
		return fmt.Sprintf("Claims(%+v): %+v, want %+v", s, got, want)
	}
	if got, want := state.Right(s), plainRight(s); got != want {
		return fmt.Sprintf("Right(%+v): %t, want %t", s, got, want)
	}
	for _, name := range []string{"a", "b", "c", "d", "e", ""} {
		if got, want := state.Find(s, name), plainFind(s, name); got != want {
			return fmt.Sprintf("Find(%+v, %q): %d, want %d", s, name, got, want)
		}
	}
	return ""
}

// Nothing hangs on how many effects, rows and messages there are.
func TestP1902Many(t *testing.T) {
	const n = 1500
	l := effects(table("t"), queueOf("q", 2), queueOf("r", 1), next(2*n+1))
	for i := range n {
		l = append(l, put("t", fmt.Sprint(i*7919%n), "v"), add("q", free(1+i*7919%n, i%10, 0)), claim("q", 1+i*7919%n))
	}
	for i := range n {
		l = append(l, tried("q", 1+i))
		if i%2 == 0 {
			l = append(l, claim("q", 1+i), tried("q", 1+i), add("r", free(1+n+i, 0, 0)), del("t", fmt.Sprint(i)))
		}
	}
	if wrong := as(api.State{Next: 1}, l...); wrong != "" {
		t.Fatalf("%d effects: %.300s", len(l), wrong)
	}
	got, err := state.Apply(api.State{Next: 1}, l...)
	if err != api.OK || len(got.Objects) != 3 || len(got.Objects[0].Msgs) != n/2 || len(got.Objects[0].Dead) != n/2 || len(got.Objects[1].Msgs) != n/2 || len(got.Objects[2].Rows) != n/2 {
		t.Errorf("%d effects: %d", len(l), err)
	}
}

func TestP1902Size(t *testing.T) {
	for _, x := range []struct {
		s    api.State
		want int
	}{
		{api.State{}, 16},
		{api.State{Next: 1 << 40}, 16},
		{api.State{Next: -7, Objects: objects()}, 16},
		{api.State{Objects: objects(api.Object{})}, 66},
		{api.State{Objects: objects(api.Object{Name: "abc", Kind: 99, Limit: 99})}, 69},
		{api.State{Objects: objects(api.Object{Name: "abc", Rows: rowsOf("", "")})}, 89},
		{api.State{Objects: objects(api.Object{Name: "abc", Rows: rowsOf("key", "value", "k", "")})}, 118},
		{api.State{Objects: objects(api.Object{Msgs: msgs(api.Msg{})})}, 126},
		{api.State{Objects: objects(api.Object{Msgs: msgs(api.Msg{Id: 1 << 40, Corr: "corr", Body: "a body"})})}, 136},
		{api.State{Objects: objects(api.Object{Dead: msgs(api.Msg{Claimed: true, Corr: "c"})})}, 127},
		{api.State{Objects: objects(api.Object{Name: "\u00e9", Rows: rowsOf("\u00e9", "\u00e9"), Msgs: msgs(api.Msg{Corr: "\u00e9"}), Dead: msgs(api.Msg{Body: "\u00e9"})})}, 216},
		{api.State{Objects: objects(api.Object{Name: "a"}, api.Object{Name: "bc"}, api.Object{})}, 169},
		{api.State{Objects: objects(api.Object{Name: strings.Repeat("n", 70000)})}, 70066},
		{api.State{Objects: named(45)}, 16 + 45*54},
		{good(), 16 + 5*51 + (3*20 + 10) + 10*60 + 10*4 + 2},
	} {
		if got := state.Size(x.s); got != x.want {
			t.Errorf("Size of %.100s: %d, want %d", fmt.Sprintf("%+v", x.s), got, x.want)
		}
	}
	chance := rand.New(rand.NewSource(1902))
	for range 20000 {
		if wrong := asked(someState(chance)); wrong != "" {
			t.Fatal(wrong)
		}
	}
}

func TestP1902Claims(t *testing.T) {
	for _, x := range []struct {
		s    api.State
		want []api.Effect
	}{
		{api.State{}, nil},
		{api.State{Next: 1, Objects: named(20)}, nil},
		{good(), effects(tried("b", 9), tried("b", 4), tried("b", 7), tried("d", 8), tried("d", 19))},
		{api.State{Objects: objects(api.Object{Name: "t", Kind: api.KTable, Msgs: msgs(taken(5, 0, 0))})}, effects(tried("t", 5))},
		{api.State{Objects: objects(api.Object{Msgs: msgs(api.Msg{Claimed: true}, api.Msg{Id: -9, Claimed: true}, api.Msg{Claimed: true})})}, effects(tried("", 0), tried("", -9), tried("", 0))},
		{api.State{Objects: objects(api.Object{Name: "q", Dead: msgs(taken(1, 0, 0))})}, nil},
		{api.State{Objects: objects(api.Object{Name: "q", Msgs: msgs(taken(3, 0, 0)), Dead: msgs(taken(3, 0, 0))})}, effects(tried("q", 3))},
		{api.State{Objects: objects(
			api.Object{Name: "z", Msgs: msgs(taken(3, 9, 0), free(2, 5, 0), taken(1, 0, 0))}, api.Object{Name: "a", Kind: 7, Msgs: msgs(free(3, 0, 0), taken(3, 0, 0))},
		)}, effects(tried("z", 3), tried("z", 1), tried("a", 3))},
	} {
		if got := state.Claims(x.s); !slices.Equal(got, x.want) {
			t.Errorf("Claims of %+v: %+v", x.s, got)
		}
	}
}

// Behind its Claims a state that is Right has none, and each message that was
// claimed was tried once more.
func TestP1902ApplyOfClaims(t *testing.T) {
	chance := rand.New(rand.NewSource(1903))
	count := 0
	for range 20000 {
		s := someState(chance)
		if !plainRight(s) {
			continue
		}
		got, err := state.Apply(s, state.Claims(s)...)
		if err != api.OK || !state.Right(got) || len(state.Claims(got)) != 0 {
			t.Fatalf("the claims of %+v: %+v, %d", s, got, err)
		}
		for _, e := range state.Claims(s) {
			o := got.Objects[state.Find(got, e.Object)]
			before, _ := plainApply(s, e)
			was := before.Objects[state.Find(before, e.Object)]
			is := func(m api.Msg) bool { return m.Id == e.N }
			if at := slices.IndexFunc(was.Msgs, is); at >= 0 && !slices.Contains(o.Msgs, was.Msgs[at]) {
				t.Fatalf("%+v of %+v: %+v", e, s, o)
			}
			if at := slices.IndexFunc(was.Dead, is); at >= 0 && !slices.Contains(o.Dead, was.Dead[at]) {
				t.Fatalf("%+v of %+v: %+v", e, s, o)
			}
			count++
		}
	}
	if count < 1000 {
		t.Errorf("only %d claims", count)
	}
}
