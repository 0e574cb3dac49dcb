package state_test

import (
	"fmt"
	"math/rand"
	"slices"
	"sync"
	"testing"

	"poste/api"
	"poste/state"
)

// The texts and numbers that are written over what lies in a place.
var (
	oddRow    = api.Row{Key: "fill", Value: "fill"}
	oddMsg    = api.Msg{Id: -99, Pri: -99, Retry: -99, Claimed: true, Corr: "fill", Body: "fill"}
	oddEffect = api.Effect{Kind: -99, Object: "fill", Key: "fill", N: -99, Tried: true, Msg: oddMsg}
)

// over writes over a list and all of its spare room.
func over[T any](l []T, with T) {
	l = l[:cap(l)]
	for i := range l {
		l[i] = with
	}
}

// fill writes over all lists of a state and all of their spare room.
func fill(s api.State) {
	for _, o := range s.Objects {
		over(o.Rows, oddRow)
		over(o.Msgs, oddMsg)
		over(o.Dead, oddMsg)
	}
	over(s.Objects, api.Object{Name: "fill", Kind: -99, Limit: -99})
}

// amid is a list of its own that says the same, in the middle of a greater one:
// so a write ahead of it, in it, or in its spare room is seen in the latter.
func amid[T any](l []T, odd T, spare int) (room, given []T) {
	room = slices.Concat([]T{odd}, l, slices.Repeat([]T{odd}, spare))
	return room, room[1 : 1+len(l)]
}

// rooms has all lists of a state in greater ones: what is there turns with what
// is handed in.
func rooms(s api.State, spare int) (all []api.State, given api.State) {
	given = s
	roomy, own := amid(s.Objects, api.Object{Name: "odd"}, spare)
	given.Objects = own
	all = append(all, api.State{Objects: roomy})
	for i := range own {
		o := &own[i]
		var room api.Object
		room.Rows, o.Rows = amid(o.Rows, oddRow, spare)
		room.Msgs, o.Msgs = amid(o.Msgs, oddMsg, spare)
		room.Dead, o.Dead = amid(o.Dead, oddMsg, spare)
		all = append(all, api.State{Objects: objects(room)})
	}
	return all, given
}

// calls are runs of effects that do each thing, and some that fail.
func calls() [][]api.Effect {
	l := [][]api.Effect{
		nil,
		effects(put("a", "k0", "v"), put("a", "k2", "new"), del("a", "k3"), put("c", "k", "v")),
		effects(add("b", free(10, 0, 0)), take("b", 7), claim("b", 3), tried("b", 4), giveBack("b", 9), add("e", free(11, 0, 0))),
		effects(table("aa"), put("aa", "k", "v"), queueOf("z", 3), add("z", free(12, 0, 0)), next(99)),
		effects(put("a", "k0", "v"), take("b", 9), tried("d", 8), take("b", 9)),
	}
	for _, e := range slices.Concat(l...) {
		l = append(l, effects(e))
	}
	return l
}

func TestP1903WhatIsHandedIn(t *testing.T) {
	for i, l := range calls() {
		for spare := range 3 {
			all, given := rooms(good(), spare)
			was := make([]api.State, len(all))
			for k, s := range all {
				was[k] = deep(s)
			}
			room, own := amid(l, oddEffect, spare)
			wasRoom := slices.Clone(room)
			got, _ := state.Apply(given, own...)
			state.Right(given)
			state.Size(given)
			state.Find(given, "b")
			over(state.Claims(given), oddEffect)
			check := func(what string) {
				for k := range all {
					if !same(all[k], was[k]) {
						t.Fatalf("run %d %s what was handed in: %+v", i, what, all[k])
					}
				}
				if !slices.Equal(room, wasRoom) || !same(given, good()) {
					t.Fatalf("run %d %s what was handed in: %+v, %+v", i, what, room, given)
				}
			}
			check("changes")
			fill(got)
			check("shares")
		}
	}
}

// A state that is refused stays as it was, too.
func TestP1903WhatIsRefused(t *testing.T) {
	for i, s := range wrongStates() {
		was := deep(s)
		state.Apply(s, table("n"), take("b", 2))
		over(state.Claims(s), oddEffect)
		if state.Right(s); !same(s, was) {
			t.Errorf("state %d changes: %+v", i, s)
		}
	}
}

// What was handed in is not kept: it changes, and no answer does.
func TestP1903NotKept(t *testing.T) {
	for i, l := range calls() {
		want, werr := state.Apply(good(), l...)
		given, own := good(), slices.Clone(l)
		got, err := state.Apply(given, own...)
		claims := state.Claims(given)
		fill(given)
		over(own, oddEffect)
		if !same(got, want) || err != werr || !slices.Equal(claims, plainClaims(good())) {
			t.Errorf("run %d changes with what was handed in: %+v, %+v", i, got, claims)
		}
		again, err := state.Apply(good(), l...)
		if !same(again, want) || err != werr {
			t.Errorf("run %d again: %+v, %d", i, again, err)
		}
	}
}

// No two answers share memory.
func TestP1903AnswersAreNewMemory(t *testing.T) {
	for i, l := range calls() {
		given := good()
		want, _ := state.Apply(given, l...)
		want = deep(want)
		one, _ := state.Apply(given, l...)
		other, _ := state.Apply(given, l...)
		fill(one)
		if !same(other, want) {
			t.Errorf("run %d: two answers share: %+v", i, other)
		}
		over(state.Claims(given), oddEffect)
		if !slices.Equal(state.Claims(given), plainClaims(good())) {
			t.Errorf("run %d: the claims of two calls lie in one place", i)
		}
	}
}

// listsOf are all lists of a state, each to be written over and to be told.
func listsOf(s api.State) (fills []func(), tell func() []string) {
	var tells []func() string
	for i := range s.Objects {
		o := s.Objects[i]
		fills = append(fills, func() { over(o.Rows, oddRow) }, func() { over(o.Msgs, oddMsg) }, func() { over(o.Dead, oddMsg) })
		tells = append(tells, func() string { return fmt.Sprint(o.Rows) }, func() string { return fmt.Sprint(o.Msgs) }, func() string { return fmt.Sprint(o.Dead) })
	}
	return fills, func() (l []string) {
		for _, one := range tells {
			l = append(l, one())
		}
		return l
	}
}

// No two lists of one answer share memory, also where one list was handed in at
// more than one place.
func TestP1903ListsAreTheirOwn(t *testing.T) {
	both := turned(func(s *api.State) {
		room := slices.Concat(s.Objects[1].Msgs, s.Objects[1].Dead, s.Objects[3].Msgs, s.Objects[4].Dead)
		s.Objects[1].Msgs, s.Objects[1].Dead = room[:5], room[5:7]
		s.Objects[3].Msgs, s.Objects[4].Dead = room[7:9], room[9:]
		s.Objects[2].Rows = s.Objects[0].Rows
	})
	for _, s := range []api.State{good(), both} {
		for i, l := range calls() {
			first, _ := state.Apply(s, l...)
			fills, _ := listsOf(first)
			for at := range fills {
				got, _ := state.Apply(s, l...)
				fills, tell := listsOf(got)
				was := tell()
				fills[at]()
				for k, now := range tell() {
					if k != at && now != was[k] {
						t.Fatalf("run %d: list %d changes with list %d: %s", i, k, at, now)
					}
				}
			}
		}
	}
}

// What one answer grows into is no part of another one, nor of what was handed
// in: so a state goes two ways from one place.
func TestP1903TwoWays(t *testing.T) {
	for seed := range 60 {
		chance := rand.New(rand.NewSource(int64(seed)))
		s := good()
		for range 30 {
			was := deep(s)
			e, other := chosen(chance, s), chosen(chance, s)
			one, err := state.Apply(s, e)
			want, werr := plainApply(was, e)
			state.Apply(s, other)
			state.Apply(one, other)
			if !same(s, was) || !same(one, want) || err != werr {
				t.Fatalf("seed %d: %+v of %+v, beside %+v: %+v, %d", seed, e, was, other, one, err)
			}
			if err == api.OK {
				s = one
			}
		}
	}
}

// nil and an empty list mean the same.
func TestP1903Nil(t *testing.T) {
	some := good().Objects[1].Msgs
	for _, none := range [][]api.Msg{nil, {}, make([]api.Msg, 0, 4), some[:0], some[5:]} {
		for _, noRows := range [][]api.Row{nil, {}, make([]api.Row, 0, 4)} {
			s := api.State{Next: 5, Objects: objects(
				api.Object{Name: "q", Kind: api.KQueue, Limit: 1, Rows: noRows, Msgs: none, Dead: none},
				api.Object{Name: "t", Kind: api.KTable, Rows: noRows, Msgs: none, Dead: none},
			)}
			if !state.Right(s) || state.Size(s) != 118 || len(state.Claims(s)) != 0 || state.Find(s, "t") != 1 {
				t.Errorf("a state of empty lists: %+v", s)
			}
			for _, e := range effects(put("t", "k", ""), add("q", free(1, 0, 0)), take("q", 1), del("t", "k"), table("u")) {
				if wrong := as(s, e); wrong != "" {
					t.Error(wrong)
				}
			}
		}
	}
	for _, l := range [][]api.Effect{nil, {}, make([]api.Effect, 0, 4)} {
		for _, none := range [][]api.Object{nil, {}, make([]api.Object, 0, 4)} {
			s := api.State{Next: 1, Objects: none}
			if got, err := state.Apply(s, l...); err != api.OK || !same(got, s) || !state.Right(s) {
				t.Errorf("nothing of nothing: %+v, %d", got, err)
			}
		}
	}
}

// Many at once, with one state: each one is told what it was told alone.
func TestP1903HangsOnArguments(t *testing.T) {
	s := good()
	var workers sync.WaitGroup
	for range 8 {
		workers.Go(func() {
			for i, l := range calls() {
				want, werr := plainApply(good(), l...)
				if got, err := state.Apply(s, l...); !same(got, want) || err != werr {
					t.Errorf("run %d answers otherwise side by side: %+v, %d", i, got, err)
				}
				if wrong := asked(s); wrong != "" {
					t.Error(wrong)
				}
			}
		})
	}
	workers.Wait()
}
