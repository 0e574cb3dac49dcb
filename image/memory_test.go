package image_test

import (
	"fmt"
	"slices"
	"sync"
	"testing"

	"poste/api"
	"poste/image"
)

// What is written over what lies in a place.
var (
	oddRow    = api.Row{Key: "odd", Value: "odd"}
	oddMsg    = api.Msg{Id: -99, Pri: -99, Retry: -99, Claimed: true, Corr: "odd", Body: "odd"}
	oddObject = api.Object{Name: "odd", Kind: -99, Limit: -99}
)

// over writes over a list and all of its spare room.
func over[T any](l []T, with T) {
	l = l[:cap(l)]
	for i := range l {
		l[i] = with
	}
}

// lists has, of all lists of a state, what writes over one.
func lists(s api.State) (l []func()) {
	for _, o := range s.Objects {
		l = append(l, func() { over(o.Rows, oddRow) }, func() { over(o.Msgs, oddMsg) }, func() { over(o.Dead, oddMsg) })
	}
	return append(l, func() { over(s.Objects, oddObject) })
}

// fill writes over all lists of a state.
func fill(s api.State) {
	for _, one := range lists(s) {
		one()
	}
}

// roomy is l in the middle of a greater list, with two odd ones behind it.
func roomy[T any](l []T, odd T) []T {
	return slices.Concat([]T{odd}, l, []T{odd, odd})[1 : 1+len(l)]
}

// wider is s with each list in the middle of a greater one.
func wider(s api.State) api.State {
	s.Objects = roomy(s.Objects, oddObject)
	for i := range s.Objects {
		o := &s.Objects[i]
		o.Rows, o.Msgs, o.Dead = roomy(o.Rows, oddRow), roomy(o.Msgs, oddMsg), roomy(o.Dead, oddMsg)
	}
	return s
}

// whole tells all lists of a state, with what is in their spare room.
func whole(s api.State) string {
	var parts []string
	for _, o := range s.Objects {
		parts = append(parts, fmt.Sprint(o.Rows[:cap(o.Rows)], o.Msgs[:cap(o.Msgs)], o.Dead[:cap(o.Dead)]))
	}
	return fmt.Sprint(s.Next, s.Objects[:cap(s.Objects)], parts)
}

func TestP2002BytesOfWhatIsHandedIn(t *testing.T) {
	for _, s := range append(rightStates(), wrongStates()...) {
		given := wider(s)
		was := whole(given)
		b := image.Bytes(given)
		if now := whole(given); now != was {
			t.Fatalf("Bytes changes what was handed in: %s", now)
		}
		want := string(b)
		over(b, 'x')
		if now := whole(given); now != was || string(image.Bytes(given)) != want {
			t.Fatalf("the bytes lie in what was handed in: %s", now)
		}
		b = image.Bytes(given)
		fill(given)
		if string(b) != want {
			t.Fatalf("Bytes changes with what was handed in: %.400q", b)
		}
	}
}

// The bytes stand in the middle of greater ones: so a write ahead of them, in
// them, or in their spare room is seen.
func TestP2002ReadOfWhatIsHandedIn(t *testing.T) {
	for _, s := range append(rightStates(), wrongStates()...) {
		for _, b := range []string{spelled(s), spelled(s) + "\x00", spelled(s)[1:]} {
			room := []byte("ahead" + b + "behind")
			got, err := image.Read(room[5 : 5+len(b)])
			if string(room) != "ahead"+b+"behind" {
				t.Fatalf("Read changes what was handed in: %.400q", room)
			}
			over(room, 'x')
			again, other := image.Read([]byte(b))
			if !same(got, again) || err != other || err == api.OK && !same(got, s) {
				t.Fatalf("what was read changes with the bytes: %s, %d", short(got), err)
			}
		}
	}
}

func TestP2002AnswersAreNewMemory(t *testing.T) {
	for _, s := range rightStates() {
		want := spelled(s)
		one, other := image.Bytes(s), image.Bytes(s)
		over(one, 'x')
		if string(other) != want || string(image.Bytes(s)) != want {
			t.Fatalf("the bytes of two calls lie in one place, of %s", short(s))
		}
		given := []byte(want)
		first, _ := image.Read(given)
		second, _ := image.Read(given)
		fill(first)
		third, err := image.Read(given)
		if !same(second, s) || !same(third, s) || err != api.OK || string(given) != want {
			t.Fatalf("the states of two calls lie in one place: %s, %s", short(second), short(third))
		}
	}
}

// No two lists of one answer share memory, their spare room neither.
func TestP2002ListsAreTheirOwn(t *testing.T) {
	for _, s := range rightStates() {
		given := []byte(spelled(s))
		for at := range 3 * len(s.Objects) {
			got, _ := image.Read(given)
			lists(got)[at]()
			for i, o := range got.Objects {
				was := s.Objects[i]
				rows := slices.Equal(o.Rows, was.Rows) || at == 3*i
				in := slices.Equal(o.Msgs, was.Msgs) || at == 3*i+1
				dead := slices.Equal(o.Dead, was.Dead) || at == 3*i+2
				if !rows || !in || !dead || o.Name != was.Name {
					t.Fatalf("object %d changes with list %d: %s", i, at, short(o))
				}
			}
		}
	}
}

// nil and an empty list mean the same.
func TestP2002Nil(t *testing.T) {
	for _, s := range rightStates() {
		want := spelled(s)
		if len(s.Objects) == 0 {
			s.Objects = objects()
		}
		for i := range s.Objects {
			o := &s.Objects[i]
			o.Rows, o.Msgs, o.Dead = append([]api.Row{}, o.Rows...), append([]api.Msg{}, o.Msgs...), append([]api.Msg{}, o.Dead...)
		}
		if got := string(image.Bytes(s)); got != want {
			t.Errorf("Bytes with empty lists: %.400q, want %.400q", got, want)
		}
	}
}

// Many at once, with one state and its bytes: each one is told what it was told
// alone.
func TestP2002AnswersHangOnArgumentsAlone(t *testing.T) {
	s, b := good(), []byte(spelled(good()))
	all := append(rightStates(), wrongStates()...)
	right := len(rightStates())
	var workers sync.WaitGroup
	for at := range 8 {
		workers.Go(func() {
			for i := at; i < len(all); i += 2 {
				want := ""
				if i < right {
					want = spelled(all[i])
				}
				if got := string(image.Bytes(all[i])); got != want || string(image.Bytes(s)) != string(b) {
					t.Errorf("other bytes side by side, of state %d: %.400q", i, got)
				}
				if got, err := image.Read(b); err != api.OK || !same(got, s) {
					t.Errorf("another state side by side: %s, %d", short(got), err)
				}
				if wrong, _ := as(spelled(all[i])); wrong != "" {
					t.Errorf("state %d side by side: %s", i, wrong)
				}
			}
		})
	}
	workers.Wait()
}
