package keep_test

import (
	"fmt"
	"math/rand"
	"strings"
	"testing"

	"poste/api"
	"poste/keep"
	"poste/sectors"
)

// bits is which writes stay.
func bits(mask, n int) []bool {
	keep := make([]bool, n)
	for i := range keep {
		keep[i] = mask>>i&1 == 1
	}
	return keep
}

// survives opens a disk behind a crash: it tells what was, or, if the one that
// the disk failed may be there, that; with no claims.
func survives(t testing.TB, what string, d *sectors.Disk, was api.State, may ...api.State) *keep.Store {
	t.Helper()
	s, err := keep.Open(d)
	if err != api.OK {
		t.Fatalf("%s: Open: %d", what, err)
	}
	got := s.State()
	for _, want := range append(may, was) {
		if same(got, freed(want)) {
			return s
		}
	}
	t.Fatalf("%s: State: %+v, was %+v, may be %+v", what, got, was, may)
	return nil
}

// scripts are runs of Dos that go, one behind the other, from a new disk on.
func scripts(t testing.TB) map[string][][]api.Effect {
	queue := runs(
		effects(next(9), queueOf("q", 2), queueOf("r", 1), table("t")),
		effects(add("q", 1, 0), add("q", 2, -1), add("r", 3, 0)),
		effects(claim("q", 1)), effects(claim("r", 3)), effects(put("t", "k", "v"), take("q", 1)),
		effects(tried("r", 3)), effects(claim("q", 2)), nil, effects(giveBack("q", 2)), effects(claim("q", 2)),
	)
	turns := runs(
		effects(next(9), queueOf("q", 3), table("t"), add("q", 1, 0)), effects(claim("q", 1)), long(t, most-64*3),
		effects(put("t", "k", "one")), effects(put("t", "k", "two"), tried("q", 1)), long(t, most), effects(put("t", "k", "three")),
		effects(claim("q", 1)), long(t, most), effects(put("t", "k", "four"), giveBack("q", 1)), effects(claim("q", 1), tried("q", 1)),
	)
	return map[string][][]api.Effect{"queues": queue, "turns": turns}
}

// play opens a disk and does all Dos till one is failed by the disk. It answers
// the state behind those that were OK, and that behind the failed one, if any.
func play(t testing.TB, d *sectors.Disk, l [][]api.Effect) (was api.State, may []api.State) {
	t.Helper()
	s, err := keep.Open(d)
	if err != api.OK {
		return first(), nil
	}
	was = s.State()
	for _, run := range l {
		switch err := s.Do(run...); err {
		case api.OK:
			was = applied(t, was, run...)
			tells(t, "OK", s, s.Epoch(), was)
		case api.ErrDisk:
			tells(t, "failed", s, s.Epoch(), was)
			return was, append(may, applied(t, was, run...))
		default:
			t.Fatalf("Do of %+v: %d", run, err)
		}
	}
	return was, nil
}

// someMore are Dos that go on what is left of any script.
func someMore() [][]api.Effect {
	return runs(effects(table("z"), next(100), queueOf("y", 1), add("y", 50, 0)), effects(put("z", "k", strings.Repeat("v", 90)), claim("y", 50)), effects(next(101)))
}

// Every break, every keep; then some more Dos on what is left, another break,
// and a crash again.
func TestP2103Crashes(t *testing.T) {
	for name, l := range scripts(t) {
		whole := sectors.New(need)
		play(t, whole, l)
		for more := range whole.Writes() + 1 {
			masks := 16
			if name == "turns" && more%5 > 0 && more > 20 {
				masks = 2
			}
			for mask := range masks {
				what := fmt.Sprintf("%s, broken behind %d, mask %x", name, more, mask)
				d := sectors.New(need)
				d.Break(more)
				was, may := play(t, d, l)
				d.Crash(bits(mask, 4))
				s := survives(t, what, d, was, may...)
				d.Break((more + mask) % 13)
				was, may = s.State(), nil
				for _, run := range someMore() {
					if s.Do(run...) != api.OK {
						may = append(may, applied(t, was, run...))
						break
					}
					was = applied(t, was, run...)
				}
				d.Crash(bits(mask*7, 4))
				survives(t, what+", again", d, was, may...)
			}
		}
	}
}

// All unsure writes but one stay, or none but one.
func TestP2103AllButOne(t *testing.T) {
	l := scripts(t)["turns"]
	for more := 1; more < 40; more++ {
		for one := range 10 {
			for _, stays := range []bool{false, true} {
				d := sectors.New(need)
				d.Break(more)
				was, may := play(t, d, l)
				keep := make([]bool, 200)
				for i := range keep {
					keep[i] = (i == one) == stays
				}
				d.Crash(keep)
				survives(t, fmt.Sprintf("broken behind %d, %d alone: %t", more, one, stays), d, was, may...)
			}
		}
	}
}

// Opening itself is crashed, again and again: each claimed message is tried
// once more, not more often.
func TestP2103OpenCrashes(t *testing.T) {
	l := scripts(t)["queues"][:5]
	was := applied(t, first())
	for _, run := range l {
		was = applied(t, was, run...)
	}
	for more := range 16 {
		for then := range 16 {
			for mask := range 8 {
				d := sectors.New(need)
				play(t, d, l)
				what := fmt.Sprintf("broken behind %d, then %d, mask %x", more, then, mask)
				for _, n := range []int{more, then} {
					d.Break(n)
					if s, err := keep.Open(d); err != api.OK && err != api.ErrDisk || (s == nil) != (err != api.OK) {
						t.Fatalf("%s: Open: %d", what, err)
					}
					d.Crash(bits(mask, 3))
				}
				s := survives(t, what, d, was)
				if s.Epoch() != 2 {
					t.Errorf("%s: epoch %d", what, s.Epoch())
				}
				survives(t, what+", again", d, was)
			}
		}
	}
}

// A store that was opened on the broken disk has read what is not sure. What it
// does behind a crash is kept if it says OK; it says so if all that it read is
// there still.
func TestP2103OpenedBroken(t *testing.T) {
	went, failed := 0, 0
	for _, full := range []bool{false, true} {
		for more := range 12 {
			for mask := range 4 {
				what := fmt.Sprintf("full %t, broken behind %d, mask %x", full, more, mask)
				s, l, _ := failing(t)
				if !full {
					s = stored(t, s.State())
				}
				s.Break(more)
				was, may := s.State(), applied(t, s.State(), l...)
				s.Do(l...)
				x := survives(t, what, s.Disk, was, may)
				x.Crash(bits(mask, 2))
				y := survives(t, what+", crashed", s.Disk, was, may)
				stays := same(x.State(), y.State()) && x.Epoch() == y.Epoch()
				switch err := x.Do(put("t", "y", "y")); {
				case err == api.OK && stays:
					went++
					opensAs(t, what+", done", s.Disk, x.Epoch(), applied(t, y.State(), put("t", "y", "y")))
				case err == api.ErrDisk && !stays:
					failed++
					over(t, what, x)
					opensAs(t, what+", failed", s.Disk, y.Epoch(), y.State())
				default:
					t.Errorf("%s: Do: %d", what, err)
				}
			}
		}
	}
	if went < 20 || failed < 4 {
		t.Errorf("too little came of it: %d went, %d failed", went, failed)
	}
}

// Long runs of Dos, breaks and crashes: nothing that was OK is lost, nothing
// comes that was not done; what somebody had is tried once more.
func TestP2103ByChance(t *testing.T) {
	failed, there, epochs := 0, 0, 0
	for seed := range 120 {
		chance := rand.New(rand.NewSource(int64(seed)))
		d := sectors.New(need)
		was := first()
		for round := range 12 {
			what := fmt.Sprintf("seed %d, round %d", seed, round)
			if chance.Intn(4) == 0 {
				d.Break(chance.Intn(12))
				keep.Open(d)
				d.Crash(bits(chance.Int(), 60))
			}
			s := survives(t, what, d, was)
			was = s.State()
			if chance.Intn(5) > 0 {
				d.Break(chance.Intn(300))
			}
			var may []api.State
			for range 40 {
				run := someRun(chance, was)
				err := s.Do(run...)
				if err == api.OK {
					was = applied(t, was, run...)
				}
				if err == api.ErrDisk {
					may = append(may, applied(t, was, run...))
					failed++
					break
				}
			}
			tells(t, what, s, s.Epoch(), was)
			d.Crash(bits(chance.Int(), 60))
			s = survives(t, what+", crashed", d, was, may...)
			if !same(s.State(), freed(was)) {
				there++
			}
			was = s.State()
			epochs = max(epochs, s.Epoch())
		}
	}
	if failed < 200 || there < 20 || epochs < 10 {
		t.Errorf("too little came of it: %d failed, %d of them there, epoch %d", failed, there, epochs)
	}
}

func TestP2103Nil(t *testing.T) {
	for what, s := range map[string]*keep.Store{"a nil store": nil, "a store that was not opened": {}} {
		for _, l := range runs(nil, effects(), effects(table("t")), effects(api.Effect{}), effects(next(2), put("t", "k", "v")), long(t, most+1)) {
			if err := s.Do(l...); err != api.ErrDisk {
				t.Errorf("%s: Do of %d: %d", what, len(l), err)
			}
		}
		tells(t, what, s, 0, api.State{})
	}
}
