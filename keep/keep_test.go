package keep_test

import (
	"bytes"
	"fmt"
	"math"
	"math/rand"
	"slices"
	"strings"
	"testing"

	"poste/api"
	"poste/effect"
	"poste/image"
	"poste/keep"
	"poste/sectors"
	"poste/state"
)

func TestP2101Need(t *testing.T) {
	if got := keep.Need(); got != need {
		t.Errorf("Need: %d", got)
	}
}

func TestP2101Examples(t *testing.T) {
	s, err := keep.Open(sectors.New(keep.Need()))
	if err != api.OK || s.Epoch() != 1 || !same(s.State(), first()) {
		t.Errorf("Open of a new disk: %d", err)
	}
}

func TestP2101WrongDisks(t *testing.T) {
	refused := func(what string, d *sectors.Disk) {
		if s, err := keep.Open(d); s != nil || err != api.ErrArg {
			t.Errorf("%s: %v, %d", what, s, err)
		}
		if d.Writes() != 0 {
			t.Errorf("%s: it is written", what)
		}
	}
	refused("a nil disk", nil)
	refused("a disk of no New", new(sectors.Disk))
	for _, n := range []int{-1, 0, 1, 2, 193, 194, 195, need - 2, need - 1} {
		refused(fmt.Sprintf("%d sectors", n), sectors.New(n))
	}
	broken := sectors.New(need - 1)
	broken.Break(0)
	refused("broken, and too small", broken)
}

// A first Open writes an image of epoch 1, and nothing else; a second one
// writes nothing. What was there ahead is not looked at, if it is no root.
func TestP2101NewDisks(t *testing.T) {
	for _, n := range []int{need, need + 1, 1000, api.MaxSectors} {
		for what, b := range map[string][]byte{"zero": make([]byte, n*64), "dirt": dirt(n), "full": bytes.Repeat([]byte{0xFF}, n*64)} {
			d := disk(t, b)
			was := d.Writes()
			tells(t, what, mustOpen(t, d), 1, first())
			placeImage(b, 1, []byte("\x01\x00\x00\x00\x00\x00\x00\x00\x00\x00\x00\x00\x00\x00\x00\x00"))
			if wrong := otherwise(all(d), b); wrong != "" {
				t.Errorf("%s, %d sectors: %s", what, n, wrong)
			}
			d.Crash(nil)
			opensAs(t, what+", again", d, 1, first())
			if got := d.Writes() - was; got != 2 {
				t.Errorf("%s, %d sectors: %d writes", what, n, got)
			}
		}
	}
}

// epochs are some that a root may have, those at the edges of numbers with them.
func epochs() []int { return []int{1, 2, 3, 8, 255, 256, 1 << 40, math.MaxInt - 1, math.MaxInt} }

// What lies on a disk: an image, and what was done since.
func TestP2101ImageAndRecords(t *testing.T) {
	for _, epoch := range epochs() {
		for i, l := range [][][]api.Effect{
			nil,
			runs(effects(put("a", "k", "v"))),
			runs(effects(put("a", "k", "v"), del("a", "k2")), effects(table("f")), effects(put("f", "x", ""), next(30), add("b", 29, 4))),
			runs(effects(claim("b", 2)), effects(giveBack("b", 2)), effects(take("b", 2))),
			runs(nil, effects(next(21)), nil, effects(put("c", "k", "v"))),
			runs(effects(claim("b", 3), tried("b", 3)), effects(claim("b", 3), tried("b", 3))),
		} {
			b, want := dirt(need), goodFreed()
			placeImage(b, epoch, image.Bytes(want))
			var records [][]byte
			for _, run := range l {
				records = append(records, effect.Bytes(run...))
				want = applied(t, want, run...)
			}
			placeRecords(b, epoch, records...)
			d := disk(t, b)
			was := d.Writes()
			s := mustOpen(t, d)
			tells(t, fmt.Sprintf("epoch %d, %d", epoch, i), s, epoch, want)
			if !slices.EqualFunc(s.Records(), records, bytes.Equal) || d.Writes() != was {
				t.Errorf("epoch %d, %d: Records %q, %d writes", epoch, i, s.Records(), d.Writes()-was)
			}
		}
	}
}

// The image is that of the newer root; the one ahead of it is not looked at,
// nor is an image that has none.
func TestP2101NewestImage(t *testing.T) {
	other := first()
	other.Next = 77
	for _, epoch := range epochs() {
		for _, before := range []int{epoch - 1, epoch - 3, epoch - 255} {
			if before < 1 {
				continue
			}
			for _, old := range [][]byte{image.Bytes(other), nil, []byte("none"), image.Bytes(good())} {
				b := dirt(need)
				placeImage(b, epoch, image.Bytes(goodFreed()))
				placeImage(b, before, old)
				placeRecords(b, before, effect.Bytes(table("n")), nil)
				opensAs(t, fmt.Sprintf("epochs %d and %d", epoch, before), disk(t, b), epoch, goodFreed())
			}
		}
		b := dirt(need)
		placeImage(b, epoch, image.Bytes(goodFreed()))
		place(b, 1-epoch&1, root(epoch+1, -1))
		opensAs(t, "a root that is none", disk(t, b), epoch, goodFreed())
	}
}

// Records of another epoch are none, be they newer or older ones.
func TestP2101RecordsOfOtherEpochs(t *testing.T) {
	for _, epoch := range []int{1, 2, 9} {
		for _, other := range []int{epoch - 1, epoch + 1, epoch + 2, 0, -epoch, epoch + 1<<32} {
			b := dirt(need)
			placeImage(b, epoch, image.Bytes(goodFreed()))
			placeRecords(b, other, effect.Bytes(table("n")), []byte("none"))
			d := disk(t, b)
			opensAs(t, fmt.Sprintf("epoch %d, records of %d", epoch, other), d, epoch, goodFreed())
			if wrong := otherwise(all(d), b); wrong != "" {
				t.Error(wrong)
			}
		}
	}
}

// Where there is no image, the epoch is 0, and its records count.
func TestP2101RecordsOfEpochZero(t *testing.T) {
	b := dirt(need)
	placeRecords(b, 0, effect.Bytes(next(9), queueOf("q", 2)), effect.Bytes(add("q", 8, 1), claim("q", 8)))
	d := disk(t, b)
	want := api.State{Next: 9, Objects: objects(api.Object{Name: "q", Kind: api.KQueue, Limit: 2, Msgs: msgs(free(8, 1, 1))})}
	opensAs(t, "records of epoch 0", d, 1, want)
	placeImage(b, 1, image.Bytes(want))
	if wrong := otherwise(all(d), b); wrong != "" {
		t.Error(wrong)
	}
	opensAs(t, "again", d, 1, want)
}

// none checks that a disk is refused by ErrBytes, and stays as it is.
func none(t *testing.T, what string, b []byte) {
	t.Helper()
	d := disk(t, b)
	was := d.Writes()
	if s, err := keep.Open(d); s != nil || err != api.ErrBytes {
		t.Errorf("%s: %v, %d", what, s, err)
	}
	if d.Writes() != was {
		t.Errorf("%s: it is written", what)
	}
}

func TestP2101ImagesThatAreNone(t *testing.T) {
	right := image.Bytes(goodFreed())
	turned := slices.Clone(right)
	turned[0] = 1
	for what, b := range map[string][]byte{
		"nothing": nil, "one byte": {1}, "cut": right[:len(right)-1], "a byte behind": append(slices.Clone(right), 0),
		"not Right": turned, "zeros": make([]byte, 16), "dirt": dirt(96),
	} {
		for _, epoch := range epochs() {
			disk := dirt(need)
			placeImage(disk, epoch, b)
			none(t, what, disk)
			if epoch > 1 {
				placeImage(disk, epoch-1, right)
				none(t, what+", a right one ahead", disk)
			}
			placeRecords(disk, epoch, effect.Bytes(table("n")))
			none(t, what+", a right record", disk)
		}
	}
}

func TestP2101RecordsThatAreNone(t *testing.T) {
	right := effect.Bytes(put("a", "k", "v"))
	for what, b := range map[string][]byte{
		"nothing": nil, "one byte": {1}, "cut": right[:len(right)-1], "a byte behind": append(slices.Clone(right), 0),
		"fewer than none": bytes.Repeat([]byte{0xFF}, 8), "not Right": effect.Bytes(put("", "k", "v")),
		"the zero effect": effect.Bytes(api.Effect{}),
		"no such object":  effect.Bytes(put("z", "k", "v")), "another kind": effect.Bytes(put("b", "k", "v")),
		"there is none": effect.Bytes(del("a", "k")), "it is there": effect.Bytes(table("a")), "a number that is none": effect.Bytes(next(19)),
		"not claimed": effect.Bytes(tried("b", 2)), "claimed": effect.Bytes(claim("b", 2), claim("b", 2)),
		"the last one": effect.Bytes(put("a", "k", "v"), del("a", "k"), del("a", "k")),
	} {
		for _, epoch := range []int{0, 1, 2, 9} {
			disk := dirt(need)
			var ahead []byte
			if epoch > 0 {
				placeImage(disk, epoch, image.Bytes(goodFreed()))
				ahead = effect.Bytes(put("c", "k", "v"))
			} else {
				ahead = effect.Bytes(next(20), table("a"), queueOf("b", 2), add("b", 2, 0))
			}
			placeRecords(disk, epoch, ahead, b)
			none(t, fmt.Sprintf("%s, epoch %d", what, epoch), disk)
			placeRecords(disk, epoch, ahead, b, right)
			none(t, fmt.Sprintf("%s, epoch %d, one behind it", what, epoch), disk)
			if epoch > 0 {
				placeRecords(disk, epoch, b)
				none(t, fmt.Sprintf("%s, epoch %d, alone", what, epoch), disk)
			}
		}
	}
}

// What somebody had is freed, tried once more, and that is an image of the next
// epoch: be it claimed in the image, by a record, or both.
func TestP2101Claims(t *testing.T) {
	for _, epoch := range []int{1, 2, 7, 1 << 40, math.MaxInt - 1} {
		for i, x := range []struct {
			s    api.State
			l    []api.Effect
			want api.State
		}{
			{good(), nil, goodFreed()},
			{good(), effects(put("a", "k", "v")), applied(t, goodFreed(), put("a", "k", "v"))},
			{goodFreed(), effects(claim("b", 2)), applied(t, goodFreed(), claim("b", 2), tried("b", 2))},
			{goodFreed(), effects(claim("b", 3)), applied(t, goodFreed(), claim("b", 3), tried("b", 3))},
			{good(), effects(claim("b", 2)), applied(t, good(), claim("b", 2), tried("b", 9), tried("b", 2), tried("b", 4), tried("b", 7), tried("d", 8), tried("d", 19))},
			{good(), effects(take("b", 9), take("b", 4), take("b", 7), take("d", 8)), applied(t, good(), take("b", 9), take("b", 4), take("b", 7), take("d", 8), tried("d", 19))},
		} {
			what := fmt.Sprintf("epoch %d, %d", epoch, i)
			b := dirt(need)
			placeImage(b, epoch, image.Bytes(x.s))
			placeRecords(b, epoch, effect.Bytes(x.l...))
			d := disk(t, b)
			s := mustOpen(t, d)
			tells(t, what, s, epoch+1, x.want)
			if len(s.Records()) != 0 {
				t.Errorf("%s: the log has records: %q", what, s.Records())
			}
			placeImage(b, epoch+1, image.Bytes(x.want))
			if wrong := otherwise(all(d), b); wrong != "" {
				t.Errorf("%s: %s", what, wrong)
			}
			d.Crash(nil)
			was := d.Writes()
			opensAs(t, what+", again", d, epoch+1, x.want)
			if d.Writes() != was {
				t.Errorf("%s: what was freed is written again", what)
			}
		}
	}
}

// What was claimed and given back, or taken, by records is not claimed.
func TestP2101NoClaimsAtTheEnd(t *testing.T) {
	b := dirt(need)
	placeImage(b, 4, image.Bytes(good()))
	l := effects(giveBack("b", 9), take("b", 4), tried("b", 7), giveBack("d", 8), tried("d", 19))
	placeRecords(b, 4, effect.Bytes(l...))
	opensAs(t, "no claims", disk(t, b), 4, applied(t, good(), l...))
}

// An image of the next epoch, of which there is none.
func TestP2101LastEpoch(t *testing.T) {
	b := dirt(need)
	placeImage(b, math.MaxInt, image.Bytes(good()))
	d := disk(t, b)
	for range 2 {
		if s, err := keep.Open(d); s != nil || err != api.ErrDisk {
			t.Errorf("Open: %v, %d", s, err)
		}
	}
	if wrong := otherwise(all(d), b); wrong != "" {
		t.Error(wrong)
	}
}

// The state that is to be freed may be more than an image holds, if others wrote
// the disk.
func TestP2101ImageTooLong(t *testing.T) {
	s := applied(t, first(), next(9), queueOf("q", 3), add("q", 5, 0), claim("q", 5), table("t"))
	for i := 0; len(image.Bytes(s)) < 5900; i++ {
		s = applied(t, s, put("t", fmt.Sprint(i), strings.Repeat("v", 100)))
	}
	b := make([]byte, need*64)
	placeImage(b, 3, image.Bytes(s))
	placeRecords(b, 3, effect.Bytes(put("t", "x", strings.Repeat("v", 100)), put("t", "y", strings.Repeat("v", 100)), put("t", "z", strings.Repeat("v", 100))))
	d := disk(t, b)
	if s, err := keep.Open(d); s != nil || err != api.ErrDisk {
		t.Errorf("Open: %v, %d", s, err)
	}
	if wrong := otherwise(all(d), b); wrong != "" {
		t.Error(wrong)
	}
}

// The disk breaks on the way: no store is told, whatever was written.
func TestP2101OpenBreaks(t *testing.T) {
	for what, b := range map[string][]byte{"new": dirt(need), "claims": dirt(need)} {
		writes := 2
		if what == "claims" {
			placeImage(b, 4, image.Bytes(good()))
			writes = len(filled(image.Bytes(goodFreed())))/64 + 1
		}
		for more := range writes + 3 {
			d := disk(t, b)
			was := d.Writes()
			d.Break(more)
			s, err := keep.Open(d)
			if more <= writes && (s != nil || err != api.ErrDisk) {
				t.Errorf("%s, broken behind %d: %v, %d", what, more, s, err)
			}
			if more > writes && err != api.OK {
				t.Errorf("%s, broken behind %d: %d", what, more, err)
			}
			if got := d.Writes() - was; got != min(more, writes) {
				t.Errorf("%s, broken behind %d: %d writes", what, more, got)
			}
		}
	}
}

// A broken disk is still read, if nothing is to be written.
func TestP2101OpenBroken(t *testing.T) {
	b := dirt(need)
	placeImage(b, 4, image.Bytes(goodFreed()))
	placeRecords(b, 4, effect.Bytes(table("n")))
	d := disk(t, b)
	d.Break(0)
	s := mustOpen(t, d)
	want := applied(t, goodFreed(), table("n"))
	tells(t, "broken", s, 4, want)
	if err := s.Do(table("m")); err != api.ErrDisk {
		t.Errorf("Do: %d", err)
	}
	tells(t, "broken", s, 4, want)
}

// A log begins anew, whatever lies where it is: no record of the next epoch is
// there ahead of the first Do.
func TestP2101LogBeginsAnew(t *testing.T) {
	old := [][]byte{effect.Bytes(table("n")), effect.Bytes(put("n", "k", "old")), effect.Bytes(), []byte("none")}
	for epoch := range 4 {
		for kept := range len(old) + 1 {
			b, want := make([]byte, need*64), first()
			if epoch > 0 {
				placeImage(b, epoch, image.Bytes(good()))
				want = goodFreed()
			}
			placeRecords(b, epoch+1, old[:kept]...)
			d := disk(t, b)
			what := fmt.Sprintf("epoch %d, %d old records", epoch, kept)
			s := mustOpen(t, d)
			tells(t, what, s, epoch+1, want)
			if len(s.Records()) != 0 || s.Room() != most {
				t.Errorf("%s: Records %q", what, s.Records())
			}
			opensAs(t, what+", again", d, epoch+1, want)
			mustDo(t, s, table("m"))
			d.Crash(nil)
			opensAs(t, what+", done", d, epoch+1, applied(t, want, table("m")))
		}
	}
}

// A log that begins anew in spite of old records loses nothing by a crash.
func TestP2101LogBeginsAnewBreaks(t *testing.T) {
	for epoch := range 3 {
		for more := range 12 {
			for mask := range 8 {
				b, want := make([]byte, need*64), first()
				if epoch > 0 {
					placeImage(b, epoch, image.Bytes(good()))
					want = goodFreed()
				}
				placeRecords(b, epoch+1, effect.Bytes(table("n")))
				d := disk(t, b)
				d.Break(more)
				keep.Open(d)
				d.Crash(bits(mask, 3))
				opensAs(t, fmt.Sprintf("epoch %d, broken behind %d, mask %x", epoch, more, mask), d, epoch+1, want)
			}
		}
	}
}

// Where a Do puts its bytes.
func TestP2102Layout(t *testing.T) {
	b := dirt(need + 3)
	d := disk(t, b)
	s := mustOpen(t, d)
	p := openPlain(b)
	var had [][]byte
	for i, l := range runs(
		effects(next(9), table("t"), queueOf("q", 2)), effects(put("t", "k", "v")), effects(add("q", 3, 1), claim("q", 3)),
		effects(put("t", "k", strings.Repeat("v", 100))), effects(take("q", 3), del("t", "k")),
	) {
		mustDo(t, s, l...)
		had = append(had, effect.Bytes(l...))
		p.do(l...)
		tells(t, fmt.Sprint("Do ", i), s, 1, p.s)
		if wrong := otherwise(all(d), p.b); wrong != "" {
			t.Errorf("Do %d: %s", i, wrong)
		}
		if !slices.EqualFunc(s.Records(), had, bytes.Equal) {
			t.Errorf("Do %d: Records %q", i, s.Records())
		}
	}
	at := b[logAt*64:]
	if want := slices.Concat(head(1, 1, len(had[0])), filled(had[0]), head(1, 2, len(had[1])), filled(had[1])); !bytes.Equal(at[:len(want)], want) {
		t.Errorf("the log: %q", at[:len(want)])
	}
}

// refused checks that a Do answers that error, and that nothing turns.
func refused(t testing.TB, what string, s *keep.Store, want api.Errno, l ...api.Effect) {
	t.Helper()
	was, epoch, bytesWas, writes, records := s.State(), s.Epoch(), all(s.Disk), s.Writes(), s.Records()
	for range 2 {
		if err := s.Do(l...); err != want {
			t.Errorf("%s: %d, want %d", what, err, want)
		}
	}
	tells(t, what, s, epoch, was)
	if s.Writes() != writes || !bytes.Equal(all(s.Disk), bytesWas) || !slices.EqualFunc(s.Records(), records, bytes.Equal) {
		t.Errorf("%s: it is written", what)
	}
}

// stored is a store of a state, of epoch 4, on a disk that has some sectors more.
func stored(t testing.TB, s api.State) *keep.Store {
	t.Helper()
	b := make([]byte, (need+2)*64)
	placeImage(b, 4, image.Bytes(s))
	return mustOpen(t, disk(t, b))
}

func TestP2102ErrorsOfApply(t *testing.T) {
	s := stored(t, goodFreed())
	for what, x := range map[string]struct {
		want api.Errno
		l    []api.Effect
	}{
		"the zero effect": {api.ErrArg, effects(api.Effect{})}, "not Right": {api.ErrArg, effects(put("", "k", ""))}, "FNext": {api.ErrArg, effects(next(19))},
		"FMake": {api.ErrTwice, effects(table("a"))}, "FAdd": {api.ErrTwice, effects(add("b", 8, 0))}, "Id": {api.ErrArg, effects(add("b", 20, 0))},
		"no such": {api.ErrName, effects(put("f", "k", ""))}, "a queue": {api.ErrKind, effects(put("b", "k", ""))}, "a table": {api.ErrKind, effects(take("a", 2))},
		"FDel": {api.ErrNone, effects(del("a", "k"))}, "FTake": {api.ErrNone, effects(take("b", 4))}, "FClaim": {api.ErrState, effects(claim("b", 2), claim("b", 2))},
		"FFree": {api.ErrNone, effects(tried("b", 2))}, "the last": {api.ErrNone, effects(put("a", "k", ""), take("b", 2), next(50), take("b", 2))},
		"the first of two": {api.ErrName, effects(put("f", "k", ""), del("a", "k"))},
		"many":             {api.ErrNone, append(slices.Repeat(effects(put("a", "k", "v")), 500), del("a", "x"))},
	} {
		refused(t, what, s, x.want, x.l...)
	}
	var many []api.Effect
	for i := range 16 {
		many = append(many, table(fmt.Sprint("t", i)))
	}
	refused(t, "objects", s, api.ErrLong, many...)
	mustDo(t, s, many[:15]...)
	opensAs(t, "behind errors", s.Disk, 4, applied(t, goodFreed(), many[:15]...))
}

// sized is a state of exactly that Size, of one table.
func sized(t testing.TB, n int) api.State {
	t.Helper()
	s := applied(t, first(), table("t"))
	for i := 0; state.Size(s) < n; i++ {
		row := min(n-state.Size(s), 122)
		if left := n - state.Size(s) - row; left > 0 && left < 22 {
			row -= 22
		}
		s = applied(t, s, put("t", fmt.Sprintf("%02d", i), strings.Repeat("v", row-22)))
	}
	if state.Size(s) != n {
		t.Fatalf("Size %d, want %d", state.Size(s), n)
	}
	return s
}

// The Size behind all of it counts, on both sides of its bound.
func TestP2102FullBySize(t *testing.T) {
	s := stored(t, sized(t, 5900))
	refused(t, "one more than may be", s, api.ErrFull, put("t", "x", strings.Repeat("v", 80)))
	refused(t, "two rows", s, api.ErrFull, put("t", "x", strings.Repeat("v", 29)), put("t", "y", strings.Repeat("v", 30)))
	refused(t, "an object", s, api.ErrFull, table(strings.Repeat("n", 16)), put("t", "x", strings.Repeat("v", 14)))
	refused(t, "a message", s, api.ErrFull, next(9), queueOf("q", 1), api.Effect{Kind: api.FAdd, Object: "q", Msg: api.Msg{Id: 1}})
	refused(t, "Apply's error is told ahead", s, api.ErrNone, put("t", "x", strings.Repeat("v", 80)), del("t", "y"))
	mustDo(t, s, put("t", "x", strings.Repeat("v", 79)))
	want := applied(t, sized(t, 5900), put("t", "x", strings.Repeat("v", 79)))
	if state.Size(want) != 6000 {
		t.Fatal("the state is not at its bound")
	}
	tells(t, "at the bound", s, 4, want)
	refused(t, "one byte more", s, api.ErrFull, put("t", "x", strings.Repeat("v", 80)))
	mustDo(t, s)
	mustDo(t, s, put("t", "x", strings.Repeat("w", 79)))
	mustDo(t, s, put("t", "y", strings.Repeat("v", 100)), del("t", "x"), del("t", "00"))
	mustDo(t, s, next(1<<40))
	opensAs(t, "at the end", s.Disk, 4, applied(t, want, put("t", "y", strings.Repeat("v", 100)), del("t", "x"), del("t", "00"), next(1<<40)))
}

// What is full at its greatest is an image that an area holds.
func TestP2102GreatestImages(t *testing.T) {
	for _, n := range []int{5999, 6000} {
		s := stored(t, sized(t, n))
		want := s.State()
		for range 30 {
			mustDo(t, s, put("t", "00", strings.Repeat("v", 100)), put("t", "00", strings.Repeat("v", 100)), put("t", "00", strings.Repeat("v", 100)), put("t", "00", strings.Repeat("v", 100)))
		}
		if s.Epoch() != 6 {
			t.Errorf("Size %d: epoch %d", n, s.Epoch())
		}
		opensAs(t, "great", s.Disk, 6, want)
	}
}

// A state that is above the bound already, if others wrote the disk.
func TestP2102FullFromTheBeginning(t *testing.T) {
	s := applied(t, first(), table("t"))
	for i := range 400 {
		s = applied(t, s, put("t", fmt.Sprintf("%03d", i), ""))
	}
	x := stored(t, s)
	tells(t, "above the bound", x, 4, s)
	refused(t, "nothing", x, api.ErrFull)
	refused(t, "the same", x, api.ErrFull, put("t", "000", ""))
	refused(t, "less, but not enough", x, api.ErrFull, del("t", "000"))
	refused(t, "an error", x, api.ErrNone, del("t", "x"))
	var l []api.Effect
	for i := range 150 {
		l = append(l, del("t", fmt.Sprintf("%03d", i)))
	}
	refused(t, "one too few", x, api.ErrFull, l[:140]...)
	mustDo(t, x, l...)
	opensAs(t, "less", x.Disk, 4, applied(t, s, l...))
}

// long is effects whose record has exactly n bytes, of a table t that has a row.
func long(t testing.TB, n int) []api.Effect {
	t.Helper()
	l := effects(put("t", "k", ""))
	for have := len(effect.Bytes(l...)); have < n; have = len(effect.Bytes(l...)) {
		v := min(n-have-62, 100)
		if left := n - have - 62 - v; left > 0 && left < 62 {
			v -= 62
		}
		if v < 0 {
			t.Fatalf("no record has %d bytes", n)
		}
		l = append(l, put("t", "k", strings.Repeat("v", v)))
	}
	return l
}

func TestP2102Long(t *testing.T) {
	for _, n := range []int{70, 194, 1000, most - 1, most} {
		if got := len(effect.Bytes(long(t, n)...)); got != n {
			t.Fatalf("%d bytes, want %d", got, n)
		}
	}
}

// What an empty log does not hold is refused, however small the state.
func TestP2102FullByRecord(t *testing.T) {
	s := stored(t, applied(t, first(), table("t")))
	for _, more := range []int{1, 2, 63, 64, 65, 200, 100000} {
		refused(t, fmt.Sprint(more, " more"), s, api.ErrFull, long(t, most+more)...)
	}
	refused(t, "more effects than a record may tell", s, api.ErrFull, slices.Repeat(effects(next(5)), 10001)...)
	refused(t, "Apply's error is told ahead", s, api.ErrName, append(long(t, most+1), put("x", "k", ""))...)
	mustDo(t, s, long(t, most)...)
	want := applied(t, applied(t, first(), table("t")), long(t, most)...)
	tells(t, "all of the log", s, 4, want)
	if s.Room() != 0 || len(s.Records()) != 1 {
		t.Errorf("Room %d", s.Room())
	}
	opensAs(t, "all of the log", s.Disk, 4, want)
	refused(t, "of a full log too", s, api.ErrFull, long(t, most+1)...)
	mustDo(t, s, long(t, most)...)
	tells(t, "once more", s, 5, want)
	opensAs(t, "once more", s.Disk, 5, want)
}

// Nothing is OK, and writes nothing; also where the log is full, or the disk
// broken.
func TestP2102Nothing(t *testing.T) {
	s := stored(t, applied(t, first(), table("t")))
	refused(t, "nothing", s, api.OK)
	refused(t, "nothing", s, api.OK, effects()...)
	refused(t, "nothing", s, api.OK, make([]api.Effect, 0, 5)...)
	mustDo(t, s, long(t, most)...)
	refused(t, "nothing, on a full log", s, api.OK)
	s.Break(0)
	refused(t, "nothing, on a broken disk", s, api.OK)
	refused(t, "what is wrong, on a broken disk", s, api.ErrNone, del("t", "x"))
	refused(t, "what is too much, on a broken disk", s, api.ErrFull, long(t, most+1)...)
	if err := s.Do(put("t", "k", "new")); err != api.ErrDisk {
		t.Errorf("Do: %d", err)
	}
	refused(t, "nothing, behind a failure", s, api.ErrDisk)
	refused(t, "what is wrong, behind a failure", s, api.ErrDisk, del("t", "x"))
	refused(t, "what is too much, behind a failure", s, api.ErrDisk, long(t, most+1)...)
}

// What just fits is appended; of one byte more, the state as it was is made an
// image of the next epoch first, and the log begins anew.
func TestP2102NextEpoch(t *testing.T) {
	for _, room := range []int{2, 3, 4, 30, 100} {
		for _, more := range []int{0, 1, 64} {
			s := stored(t, applied(t, first(), table("t")))
			p := openPlain(all(s.Disk))
			fits := long(t, most-room*64)
			mustDo(t, s, fits...)
			p.do(fits...)
			if s.Room() != (room-1)*64 {
				t.Fatalf("Room %d", s.Room())
			}
			if (room-1)*64+more < 132 {
				continue
			}
			was := s.Writes()
			l := long(t, (room-1)*64+more)
			mustDo(t, s, l...)
			p.do(l...)
			what := fmt.Sprintf("room for %d, %d more", room, more)
			epoch, records, writes := 4, 2, room
			if more > 0 {
				epoch, records = 5, 1
				writes = len(filled(image.Bytes(applied(t, first(), append(effects(table("t")), fits...)...))))/64 + 1 + room + 1
				writes++
			}
			tells(t, what, s, epoch, p.s)
			if wrong := otherwise(all(s.Disk), p.b); wrong != "" {
				t.Errorf("%s: %s", what, wrong)
			}
			if len(s.Records()) != records || s.Writes()-was != writes {
				t.Errorf("%s: %d records, %d writes, want %d", what, len(s.Records()), s.Writes()-was, writes)
			}
			opensAs(t, what, s.Disk, epoch, p.s)
		}
	}
}

// Claimed messages are in the image of a Do as they are: just Open frees them.
func TestP2102ClaimsStayClaimed(t *testing.T) {
	s := stored(t, applied(t, first(), table("t"), next(9), queueOf("q", 2), add("q", 5, 0)))
	mustDo(t, s, claim("q", 5))
	for range 5 {
		mustDo(t, s, long(t, most)...)
	}
	want := applied(t, first(), table("t"), next(9), queueOf("q", 2), add("q", 5, 0), claim("q", 5), put("t", "k", ""))
	want = applied(t, want, long(t, most)...)
	tells(t, "claimed", s, 9, want)
	mustDo(t, s, giveBack("q", 5))
	tells(t, "given back", s, 10, applied(t, want, giveBack("q", 5)))
	opensAs(t, "given back", s.Disk, 10, applied(t, want, giveBack("q", 5)))
}

// failing is a store whose next Do of the effects makes an image, and the
// effects; the image takes some sectors, then its root, then the record.
func failing(t testing.TB) (s *keep.Store, l []api.Effect, ahead int) {
	s = stored(t, applied(t, first(), table("t"), put("t", "x", strings.Repeat("x", 90))))
	mustDo(t, s, long(t, most)...)
	return s, effects(put("t", "k", "new"), put("t", "l", "new")), len(filled(image.Bytes(s.State())))/64 + 1
}

// The disk breaks at each write of a Do, with an image ahead or without: the
// state is as it was, and nothing is done any more till the disk is opened.
func TestP2102Fails(t *testing.T) {
	for _, full := range []bool{false, true} {
		for more := range 14 {
			s, l, ahead := failing(t)
			was := s.State()
			if !full {
				s, ahead = stored(t, was), 0
			}
			writes := ahead + 1 + (len(effect.Bytes(l...))+63)/64 + 1
			what := fmt.Sprintf("full %t, broken behind %d", full, more)
			before := s.Writes()
			s.Break(more)
			err := s.Do(l...)
			if more > writes {
				if err != api.OK || s.Writes()-before != writes {
					t.Errorf("%s: %d, %d writes", what, err, s.Writes()-before)
				}
				continue
			}
			if err != api.ErrDisk || s.Writes()-before != more {
				t.Errorf("%s: %d, %d writes", what, err, s.Writes()-before)
			}
			epoch := 4
			if full && more > ahead {
				epoch = 5
			}
			tells(t, what, s, epoch, was)
			over(t, what, s)
			s.Crash(nil)
			tells(t, what, s, epoch, was)
			over(t, what+", behind the crash", s)
			opensAs(t, what+", opened", s.Disk, epoch, was)
		}
	}
}

// over checks that a store that failed does nothing any more.
func over(t testing.TB, what string, s *keep.Store) {
	t.Helper()
	for _, l := range runs(nil, effects(put("t", "k", "v")), effects(api.Effect{}), effects(del("t", "none")), effects(table("u")), effects(next(7)), long(t, most), long(t, most+1)) {
		refused(t, what, s, api.ErrDisk, l...)
	}
}

// A store opened beside one that failed goes on; the one that failed does not.
func TestP2102OpenedAgain(t *testing.T) {
	for more := range 9 {
		s, l, _ := failing(t)
		s.Break(more)
		s.Do(l...)
		s.Crash(nil)
		x := mustOpen(t, s.Disk)
		want := applied(t, x.State(), put("t", "y", "y"))
		mustDo(t, x, put("t", "y", "y"))
		over(t, "it failed", s)
		opensAs(t, "it goes on", s.Disk, x.Epoch(), want)
	}
}

// There is no epoch behind the last one: what needs it fails.
func TestP2102LastEpoch(t *testing.T) {
	b := make([]byte, need*64)
	was := applied(t, first(), table("t"))
	placeImage(b, math.MaxInt, image.Bytes(was))
	s := mustOpen(t, disk(t, b))
	mustDo(t, s, long(t, most)...)
	was = applied(t, was, long(t, most)...)
	if err := s.Do(put("t", "x", "")); err != api.ErrDisk {
		t.Errorf("Do: %d", err)
	}
	tells(t, "the last epoch", s, math.MaxInt, was)
	over(t, "the last epoch", s)
	opensAs(t, "the last epoch", s.Disk, math.MaxInt, was)
}

// logs is what a store has of its log, disks of the log's disk.
type logs interface {
	Records() [][]byte
	Append(b []byte) api.Errno
	Room() int
}

type disks interface {
	Len() int
	Read(i int) []byte
	Write(i int, b []byte) bool
	Sync() bool
	Crash(keep []bool)
	Break(n int)
	Writes() int
}

// A store embeds its log, with all its methods: that of its epoch.
func TestP2102Embeds(t *testing.T) {
	d := disk(t, make([]byte, need*64))
	s := mustOpen(t, d)
	var has logs = s
	var lies disks = s
	if s.Log == nil || s.Disk != d || lies.Len() != need || lies.Writes() != d.Writes() || has.Room() != most {
		t.Error("the log is not the store's")
	}
	mustDo(t, s, table("t"))
	if l := effect.Bytes(table("t")); len(has.Records()) != 1 || !bytes.Equal(has.Records()[0], l) || has.Room() != most-(1+(len(l)+63)/64)*64 {
		t.Errorf("Records %q", has.Records())
	}
	mustDo(t, s, long(t, most)...)
	if len(has.Records()) != 1 || has.Room() != 0 || s.Epoch() != 2 {
		t.Errorf("the log of the next epoch: %d records", len(has.Records()))
	}
	if err := has.Append([]byte("x")); err != api.ErrLong {
		t.Errorf("Append: %d", err)
	}
}

// Long runs beside a plain store, on disks that do not break.
func TestP2102ByChance(t *testing.T) {
	count := map[api.Errno]int{}
	for seed := range 60 {
		chance := rand.New(rand.NewSource(int64(seed)))
		d := disk(t, dirt(need))
		s := mustOpen(t, d)
		p := openPlain(dirt(need))
		for step := range 80 {
			if chance.Intn(20) == 0 {
				d.Crash(nil)
				s, p = mustOpen(t, d), openPlain(p.b)
			}
			l := someRun(chance, p.s)
			got, want := s.Do(l...), p.do(l...)
			count[want]++
			if got != want {
				t.Fatalf("seed %d, step %d: Do: %d, want %d", seed, step, got, want)
			}
			tells(t, fmt.Sprintf("seed %d, step %d", seed, step), s, p.epoch, p.s)
			if wrong := otherwise(all(d), p.b); wrong != "" {
				t.Fatalf("seed %d, step %d: %s", seed, step, wrong)
			}
		}
		count[-1] += p.epoch
	}
	for _, err := range []api.Errno{api.OK, api.ErrArg, api.ErrName, api.ErrTwice, api.ErrKind, api.ErrNone, api.ErrFull, -1} {
		if count[err] < 10 {
			t.Errorf("%d is told too seldom: %v", err, count)
		}
	}
}
