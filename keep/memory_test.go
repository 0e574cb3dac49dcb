package keep_test

import (
	"bytes"
	"fmt"
	"math/rand"
	"slices"
	"strings"
	"sync"
	"testing"

	"poste/api"
	"poste/image"
	"poste/keep"
	"poste/sectors"
)

// The texts and numbers that are written over what lies in a place.
var (
	oddRow    = api.Row{Key: "fill", Value: "fill"}
	oddMsg    = api.Msg{Id: -99, Pri: -99, Retry: -99, Claimed: true, Corr: "fill", Body: "fill"}
	oddEffect = api.Effect{Kind: -99, Object: "fill", Key: "fill", N: -99, Tried: true, Msg: oddMsg}
)

// fillAll writes over a list and all of its spare room.
func fillAll[T any](l []T, with T) {
	l = l[:cap(l)]
	for i := range l {
		l[i] = with
	}
}

// fill writes over all lists of a state and all of their spare room.
func fill(s api.State) {
	for _, o := range s.Objects {
		fillAll(o.Rows, oddRow)
		fillAll(o.Msgs, oddMsg)
		fillAll(o.Dead, oddMsg)
	}
	fillAll(s.Objects, api.Object{Name: "fill", Kind: -99, Limit: -99})
}

// calls are Dos on the good state, freed; some fail.
func calls() [][]api.Effect {
	return runs(
		nil, effects(put("a", "k0", "v"), put("a", "k2", "new"), del("a", "k3")), effects(add("b", 10, 0), claim("b", 2), take("b", 3)),
		effects(table("aa"), put("aa", "k", "v"), queueOf("z", 3), add("z", 12, 0), next(99)), effects(del("a", "none")),
		effects(put("a", "k", "v"), put("b", "k", "v")), slices.Repeat(effects(put("a", "k", "v")), 300), effects(tried("b", 2)),
	)
}

// What is handed in stays as it is, its spare room and what lies ahead of it
// too: of Dos that go, that are refused, that fail.
func TestP2103WhatIsHandedIn(t *testing.T) {
	for _, breaks := range []int{-1, 0, 1, 3} {
		for i, l := range calls() {
			for spare := range 3 {
				s := stored(t, goodFreed())
				if breaks >= 0 {
					s.Break(breaks)
				}
				room := slices.Concat(effects(oddEffect), l, slices.Repeat(effects(oddEffect), spare))
				was := slices.Clone(room)
				s.Do(room[1 : 1+len(l)]...)
				if !slices.Equal(room, was) {
					t.Errorf("Do %d changes what was handed in: %+v", i, room)
				}
			}
		}
	}
}

// What was handed in is not kept: it changes, and the store does not.
func TestP2103NotKept(t *testing.T) {
	for i, l := range calls() {
		s, other := stored(t, goodFreed()), stored(t, goodFreed())
		given := slices.Clone(l)
		err := s.Do(given...)
		fillAll(given, oddEffect)
		if werr := other.Do(l...); err != werr {
			t.Errorf("Do %d: %d, %d", i, err, werr)
		}
		tells(t, fmt.Sprint("Do ", i), s, 4, other.State())
		if !bytes.Equal(all(s.Disk), all(other.Disk)) || !slices.EqualFunc(s.Records(), other.Records(), bytes.Equal) {
			t.Errorf("Do %d changes with what was handed in", i)
		}
		opensAs(t, fmt.Sprint("Do ", i), s.Disk, 4+min(len(claimed(other.State())), 1), freed(other.State()))
	}
}

// claimed are the messages that somebody has.
func claimed(s api.State) (l []api.Msg) {
	for _, o := range s.Objects {
		for _, m := range o.Msgs {
			if m.Claimed {
				l = append(l, m)
			}
		}
	}
	return l
}

// What is answered is new memory, at each time; what is written over it is not
// in the store, nor on its disk.
func TestP2103StatesAreNewMemory(t *testing.T) {
	for i, l := range calls() {
		s := stored(t, good())
		for _, want := range []api.State{goodFreed(), {}} {
			if want.Next == 0 {
				s.Do(l...)
				want = s.State()
			}
			one, other := s.State(), s.State()
			fill(one)
			if !same(other, want) {
				t.Errorf("Do %d: two answers share", i)
			}
			tells(t, "written over", s, 5, want)
			mustDo(t, s, put("c", "x", "x"))
			mustDo(t, s, del("c", "x"))
			tells(t, "written over, and gone on", s, 5, want)
			if !same(other, want) {
				t.Errorf("Do %d: an answer changes with the store", i)
			}
		}
	}
}

// No two lists of one answer share memory.
func TestP2103ListsAreTheirOwn(t *testing.T) {
	s := stored(t, good())
	for i := range s.State().Objects {
		for k := range 3 {
			got, want := s.State(), goodFreed()
			o := &got.Objects[i]
			switch k {
			case 0:
				fillAll(o.Rows, oddRow)
				o.Rows, want.Objects[i].Rows = nil, nil
			case 1:
				fillAll(o.Msgs, oddMsg)
				o.Msgs, want.Objects[i].Msgs = nil, nil
			case 2:
				fillAll(o.Dead, oddMsg)
				o.Dead, want.Objects[i].Dead = nil, nil
			}
			if !same(got, want) {
				t.Errorf("object %d, list %d is shared: %+v", i, k, got)
			}
		}
	}
}

// Two stores on two disks have nothing in common.
func TestP2103TwoStores(t *testing.T) {
	a, b := stored(t, goodFreed()), stored(t, goodFreed())
	mustDo(t, a, put("a", "k", "of a"), take("b", 2))
	tells(t, "the other one", b, 4, goodFreed())
	a.Break(0)
	if err := a.Do(table("x")); err != api.ErrDisk {
		t.Errorf("Do: %d", err)
	}
	mustDo(t, b, table("x"))
	over(t, "the failed one", a)
	tells(t, "the failed one", a, 4, applied(t, goodFreed(), put("a", "k", "of a"), take("b", 2)))
	tells(t, "the other one", b, 4, applied(t, goodFreed(), table("x")))
}

// The state that is told may be a state to begin with elsewhere.
func TestP2103StateGoesOn(t *testing.T) {
	s := stored(t, goodFreed())
	b := make([]byte, need*64)
	placeImage(b, 9, image.Bytes(s.State()))
	opensAs(t, "elsewhere", disk(t, b), 9, goodFreed())
}

// nil and an empty list mean the same.
func TestP2103NoEffects(t *testing.T) {
	for _, l := range [][]api.Effect{nil, {}, make([]api.Effect, 0, 4)} {
		s := stored(t, goodFreed())
		refused(t, "nothing", s, api.OK, l...)
		over := stored(t, goodFreed())
		over.Break(0)
		over.Do(table("x"))
		refused(t, "nothing, behind a failure", over, api.ErrDisk, l...)
	}
}

// Many stores at once: each one is told what it was told alone.
func TestP2103HangsOnWhatItWasTold(t *testing.T) {
	tell := func() string {
		var l strings.Builder
		chance := rand.New(rand.NewSource(21))
		d := sectors.New(need)
		s, err := keep.Open(d)
		for range 60 {
			if chance.Intn(8) == 0 {
				d.Break(chance.Intn(30))
			}
			fmt.Fprintln(&l, err, s.Do(someRun(chance, s.State())...), s.State(), s.Epoch(), s.Room(), d.Writes())
			if chance.Intn(8) == 0 {
				d.Crash(bits(chance.Int(), 60))
				s, err = keep.Open(d)
			}
		}
		return l.String()
	}
	want := tell()
	got := make([]string, 8)
	var workers sync.WaitGroup
	for i := range got {
		workers.Go(func() { got[i] = tell() })
	}
	workers.Wait()
	for i := range got {
		if got[i] != want {
			t.Errorf("store %d is otherwise", i)
		}
	}
}
