package roots_test

import (
	"bytes"
	"encoding/binary"
	"fmt"
	"math"
	"math/rand"
	"slices"
	"strings"
	"sync"
	"testing"

	"poste/api"
	"poste/roots"
	"poste/sectors"
)

// epochs are some of both places, those at the edges of numbers with them.
func epochs() []int {
	return []int{1, 2, 3, 4, 255, 256, 1 << 32, 1<<32 + 1, math.MaxInt - 1, math.MaxInt}
}

// wrongEpochs are none.
func wrongEpochs() []int { return []int{0, -1, -2, -255, math.MinInt, math.MinInt + 1} }

// wrongPlaces are those from which on nothing is there, whatever the disk has.
func wrongPlaces() []int {
	return []int{-1, -2, -3, -4, -5, -api.MaxSectors, math.MinInt, math.MinInt + 1, api.MaxSectors, 1 << 20, 1<<20 + 1, 1 << 32, math.MaxInt - 3, math.MaxInt}
}

// lengths are those of an area of so many sectors: at the edges of sectors.
func lengths(area int) []int {
	l := []int{0, 1, 2, 40}
	for k := 1; k <= area; k++ {
		l = append(l, k*api.Sector-1, k*api.Sector, k*api.Sector+1)
	}
	return l[:len(l)-1]
}

// text is n bytes that hang on c; none of them is 0.
func text(c, n int) []byte {
	b := make([]byte, n)
	for i := range b {
		b[i] = byte(1 + (c*31+i+i/api.Sector*7)%255)
	}
	return b
}

// root is the sector of a root, byte by byte as the document says.
func root(epoch, n int) []byte {
	b := []byte("\x04\x00root")
	b = binary.LittleEndian.AppendUint64(b, uint64(epoch))
	b = binary.LittleEndian.AppendUint64(b, uint64(n))
	return append(b, make([]byte, api.Sector-len(b))...)
}

// dirt is n sectors that nobody has written here.
func dirt(n int) []byte { return bytes.Repeat([]byte{0xEE}, n*api.Sector) }

// disk has these bytes, all sure.
func disk(t testing.TB, b []byte) *sectors.Disk {
	t.Helper()
	d := sectors.New(len(b) / api.Sector)
	for i := range d.Len() {
		if !d.Write(i, b[i*api.Sector:(i+1)*api.Sector]) {
			t.Fatalf("sector %d can't be written", i)
		}
	}
	if !d.Sync() {
		t.Fatal("Sync: false")
	}
	return d
}

// all is what is on a disk, one sector behind the other.
func all(d *sectors.Disk) []byte {
	var b []byte
	for i := range d.Len() {
		b = append(b, d.Read(i)...)
	}
	return b
}

// put lays whole sectors over those of b, from sector at on.
func put(b []byte, at int, s []byte) { copy(b[at*api.Sector:(at+len(s)/api.Sector)*api.Sector], s) }

// filled is b with bytes 0 behind, up to whole sectors.
func filled(b []byte) []byte {
	b = slices.Clone(b)
	for len(b)%api.Sector != 0 {
		b = append(b, 0)
	}
	return b
}

// laid is b with an image and its root laid over it.
func laid(b []byte, at, area, epoch int, image []byte) []byte {
	b = slices.Clone(b)
	put(b, at+2+epoch%2*area, filled(image))
	put(b, at+epoch%2, root(epoch, len(image)))
	return b
}

// plainRead reads off these bytes as the document's words spell it; at and
// area are such as need no cut.
func plainRead(b []byte, at, area int) (int, []byte, bool) {
	best, image, found := 0, []byte(nil), false
	for turn := range 2 {
		if at+turn >= len(b)/api.Sector {
			continue
		}
		had := b[(at+turn)*api.Sector : (at+turn+1)*api.Sector]
		epoch := int(binary.LittleEndian.Uint64(had[6:]))
		n := int(binary.LittleEndian.Uint64(had[14:]))
		first := (at + 2 + turn*area) * api.Sector
		switch {
		case !bytes.Equal(had, root(epoch, n)), epoch <= best, epoch%2 != turn, n < 0, n > area*api.Sector:
		case first+api.Sector > len(b), first+len(filled(make([]byte, n))) > len(b):
		default:
			best, image, found = epoch, b[first:first+n], true
		}
	}
	return best, image, found
}

// tells checks what Read tells.
func tells(t testing.TB, what string, d *sectors.Disk, at, area, epoch int, image []byte) {
	t.Helper()
	e, b, ok := roots.Read(d, at, area)
	if !ok || e != epoch || !bytes.Equal(b, image) {
		t.Errorf("%s: Read: %d, %d bytes, %v, want %d, %d bytes", what, e, len(b), ok, epoch, len(image))
	}
}

// none checks that Read tells nothing.
func none(t testing.TB, what string, d *sectors.Disk, at, area int) {
	t.Helper()
	if e, b, ok := roots.Read(d, at, area); ok || e != 0 || len(b) != 0 {
		t.Errorf("%s: Read: %d, %q, %v, want nothing", what, e, b, ok)
	}
}

// mustWrite writes what must go.
func mustWrite(t testing.TB, d *sectors.Disk, at, area, epoch int, b []byte) {
	t.Helper()
	if err := roots.Write(d, at, area, epoch, b); err != api.OK {
		t.Fatalf("Write of epoch %d, of %d bytes: %d", epoch, len(b), err)
	}
}

func TestP601Need(t *testing.T) {
	for _, x := range []struct{ area, want int }{
		{1, 4}, {0, 4}, {-1, 4}, {math.MinInt, 4}, {2, 6}, {3, 8}, {api.AreaLen, 2 + 2*api.AreaLen},
		{999, 2000}, {1000, 2002}, {1001, 2002}, {1 << 62, 2002}, {math.MaxInt, 2002},
	} {
		if got := roots.Need(x.area); got != x.want {
			t.Errorf("Need(%d): %d, want %d", x.area, got, x.want)
		}
	}
}

// Where a Write puts its bytes: nothing else is touched, and all of it is sure.
func TestP601Layout(t *testing.T) {
	for area := 1; area <= 3; area++ {
		for at := range 3 {
			for _, epoch := range epochs() {
				for _, n := range lengths(area) {
					before := dirt(at + roots.Need(area) + 2)
					d, b := disk(t, before), text(epoch%7, n)
					was := d.Writes()
					mustWrite(t, d, at, area, epoch, b)
					if want := len(filled(b))/api.Sector + 1; d.Writes()-was != want {
						t.Errorf("Write of %d bytes: %d writes, want %d", n, d.Writes()-was, want)
					}
					d.Crash(nil)
					if !bytes.Equal(all(d), laid(before, at, area, epoch, b)) {
						t.Errorf("at %d, area %d, epoch %d, %d bytes: the disk is otherwise", at, area, epoch, n)
					}
					tells(t, "written", d, at, area, epoch, b)
				}
			}
		}
	}
}

// Each image goes over the one ahead of the last: the last one stays whole.
func TestP601ByTurns(t *testing.T) {
	const at, area = 1, 3
	want := dirt(at + roots.Need(area) + 1)
	d := disk(t, want)
	none(t, "nothing was written", d, at, area)
	for i, n := range []int{100, 0, 192, 64, 65, 1, 0, 0, 128} {
		epoch, b := i+1, text(i, n)
		mustWrite(t, d, at, area, epoch, b)
		want = laid(want, at, area, epoch, b)
		if !bytes.Equal(all(d), want) {
			t.Errorf("epoch %d: the disk is otherwise", epoch)
		}
		tells(t, "written", d, at, area, epoch, b)
	}
	tells(t, "from another place on", disk(t, append(dirt(1), want...)), at+1, area, 9, text(8, 128))
}

// An epoch may be any above 0: of two that are there the greater one is told,
// in whichever order they came.
func TestP601TheGreater(t *testing.T) {
	for _, first := range epochs() {
		for _, second := range epochs() {
			d := disk(t, dirt(roots.Need(2)))
			mustWrite(t, d, 0, 2, first, text(1, 70))
			mustWrite(t, d, 0, 2, second, text(2, 90))
			switch {
			case first%2 == second%2, second > first:
				tells(t, "the second", d, 0, 2, second, text(2, 90))
			default:
				tells(t, "the first", d, 0, 2, first, text(1, 70))
			}
		}
	}
}

// What is refused for its epoch or its length is told in this order, writes
// nothing, makes nothing sure, and uses up no Break.
func TestP601Refused(t *testing.T) {
	for area := 1; area <= 3; area++ {
		before := laid(dirt(roots.Need(area)+3), 0, area, 7, text(1, 9))
		d := disk(t, before)
		d.Write(roots.Need(area), text(5, api.Sector))
		d.Break(1)
		was := d.Writes()
		long := area*api.Sector + 1
		for _, at := range append(wrongPlaces(), 0, 1) {
			for _, n := range []int{long, long + api.Sector, 100000} {
				for _, epoch := range append(wrongEpochs(), 0) {
					if err := roots.Write(d, at, area, epoch, text(1, n)); err != api.ErrArg {
						t.Errorf("epoch %d, too long: %d", epoch, err)
					}
				}
				for _, epoch := range epochs() {
					if err := roots.Write(d, at, area, epoch, text(1, n)); err != api.ErrLong {
						t.Errorf("%d bytes, area %d: %d", n, area, err)
					}
				}
			}
			for _, epoch := range wrongEpochs() {
				if err := roots.Write(d, at, area, epoch, text(1, 3)); err != api.ErrArg {
					t.Errorf("epoch %d: %d", epoch, err)
				}
			}
		}
		if d.Writes() != was || !d.Write(0, root(8, 0)) {
			t.Error("what is refused has written")
		}
		d.Crash(nil)
		if !bytes.Equal(all(d), before) {
			t.Error("what is refused has made writes sure")
		}
	}
}

// Where no root is there, the disk fails; nothing is written.
func TestP601Nowhere(t *testing.T) {
	for _, size := range []int{0, 1, 4, 9} {
		var before []byte
		for i := range size {
			before = append(before, root(i+1, 3)...)
		}
		d := disk(t, before)
		was := d.Writes()
		for _, at := range append(wrongPlaces(), size, size+1) {
			for area := range 4 {
				none(t, fmt.Sprintf("at %d of %d sectors", at, size), d, at, area)
				for _, epoch := range epochs() {
					for _, n := range lengths(max(area, 1)) {
						if err := roots.Write(d, at, area, epoch, text(1, n)); err != api.ErrDisk {
							t.Errorf("Write of %d bytes at %d of %d sectors: %d", n, at, size, err)
						}
					}
				}
			}
		}
		if d.Writes() != was || !bytes.Equal(all(d), before) {
			t.Error("what is nowhere was written")
		}
	}
}

// The area is cut: below 1 it is 1, above 1000 it is 1000.
func TestP601AreaIsCut(t *testing.T) {
	for _, area := range []int{0, -1, -1000, math.MinInt} {
		for _, epoch := range []int{3, 4} {
			d := disk(t, dirt(6))
			mustWrite(t, d, 1, area, epoch, text(1, 64))
			if err := roots.Write(d, 1, area, epoch, text(1, 65)); err != api.ErrLong {
				t.Errorf("area %d: %d", area, err)
			}
			if !bytes.Equal(all(d), laid(dirt(6), 1, 1, epoch, text(1, 64))) {
				t.Errorf("area %d: the disk is otherwise", area)
			}
			tells(t, "area cut to 1", d, 1, area, epoch, text(1, 64))
		}
	}
	const most = 1000 * api.Sector
	for _, area := range []int{1000, 1001, 1 << 40, math.MaxInt - 1, math.MaxInt} {
		for _, epoch := range []int{3, 4} {
			d := sectors.New(api.MaxSectors)
			mustWrite(t, d, 5, area, epoch, text(1, most))
			if err := roots.Write(d, 5, area, epoch, text(1, most+1)); err != api.ErrLong {
				t.Errorf("area %d: %d", area, err)
			}
			if !bytes.Equal(all(d), laid(make([]byte, api.MaxSectors*api.Sector), 5, 1000, epoch, text(1, most))) {
				t.Errorf("area %d: the disk is otherwise", area)
			}
			tells(t, "area cut to 1000", d, 5, area, epoch, text(1, most))
		}
	}
}

// wrongRoots are sectors that are no root of the place of that epoch, whose
// image has n bytes.
func wrongRoots(epoch, n int) map[string][]byte {
	good := root(epoch, n)
	wrong := map[string][]byte{
		"zero": make([]byte, api.Sector), "dirt": dirt(1), "full": bytes.Repeat([]byte{0xFF}, api.Sector),
		"the epoch ahead": root(epoch-1, n), "the next epoch": root(epoch+1, n),
		"epoch 0": root(0, n), "epoch -1": root(-1, n), "epoch -2": root(-2, n), "below 0": root(-epoch, n),
		"the least": root(math.MinInt, n), "the least but one": root(math.MinInt+1, n),
		"a shorter tag": append([]byte("\x03\x00roo"), append(slices.Clone(good[6:]), 0)...),
		"a longer tag":  append([]byte("\x05\x00roots"), good[6:63]...),
		"another tag":   append([]byte("\x03\x00rec"), append(slices.Clone(good[6:]), 0)...),
		"an empty tag":  append([]byte("\x00\x00"), append(slices.Clone(good[6:]), 0, 0, 0, 0)...),
		"a long tag":    append([]byte("\xff\xff"), good[2:]...),
		"large letters": append([]byte("\x04\x00ROOT"), good[6:]...),
	}
	for i := range good {
		if i < 6 || i >= 22 {
			for _, c := range []byte{1, 0x80} {
				b := slices.Clone(good)
				b[i] ^= c
				wrong[fmt.Sprintf("byte %d, turned by %d", i, c)] = b
			}
		}
	}
	return wrong
}

// A root that is none is not told: the other one is, or nothing.
func TestP601WrongRoots(t *testing.T) {
	const area = 2
	for _, epoch := range []int{5, 6} {
		for what, wrong := range wrongRoots(epoch, 70) {
			if len(wrong) != api.Sector {
				t.Fatalf("%s: %d bytes", what, len(wrong))
			}
			b := laid(dirt(roots.Need(area)), 0, area, epoch, text(1, 70))
			tells(t, "a right root", disk(t, b), 0, area, epoch, text(1, 70))
			put(b, epoch%2, wrong)
			none(t, what, disk(t, b), 0, area)
			for _, other := range []int{epoch - 1, epoch + 1, epoch + 3} {
				tells(t, what, disk(t, laid(b, 0, area, other, text(2, 9))), 0, area, other, text(2, 9))
			}
		}
	}
}

// A root alone makes an image of what is in its area: any bytes are one, and
// those behind it in its last sector may be any.
func TestP601AnyBytes(t *testing.T) {
	const area = 3
	for _, epoch := range epochs() {
		for n := range area*api.Sector + 1 {
			b := dirt(roots.Need(area))
			put(b, epoch%2, root(epoch, n))
			tells(t, "dirt", disk(t, b), 0, area, epoch, dirt(area)[:n])
		}
	}
}

// A length that can't be, or that an area does not hold, is no root's.
func TestP601Lengths(t *testing.T) {
	const area = 2
	for _, epoch := range []int{3, 4} {
		wrong := []int{math.MinInt, math.MinInt + 1, -api.Sector, -1, area*api.Sector + 1, area*api.Sector + 2, 3 * api.Sector, api.Sector * api.MaxSectors, 1 << 16, 1 << 32, 1<<32 + 1, 1 << 62, math.MaxInt - 63, math.MaxInt}
		for _, n := range wrong {
			b := dirt(20)
			put(b, epoch%2, root(epoch, n))
			none(t, fmt.Sprintf("a length of %d", n), disk(t, b), 0, area)
			b = laid(b, 0, area, epoch-1, text(1, 100))
			tells(t, fmt.Sprintf("a length of %d in the other", n), disk(t, b), 0, area, epoch-1, text(1, 100))
		}
	}
}

// On disks of all sizes: an image is told if its sectors are there, and at
// least the first one of its area.
func TestP601ShortDisks(t *testing.T) {
	const area = 3
	for at := range 2 {
		whole := dirt(at + roots.Need(area) + 1)
		for size := range at + roots.Need(area) + 2 {
			for _, n := range append(lengths(area), lengths(area+1)...) {
				for _, m := range []int{-1, 0, 1, 64, 65, 192} {
					b := slices.Clone(whole)
					put(b, at, root(8, n))
					put(b, at+1, root(7, m))
					b = b[:size*api.Sector]
					if epoch, image, ok := plainRead(b, at, area); ok {
						tells(t, fmt.Sprintf("%d sectors, lengths %d and %d", size, n, m), disk(t, b), at, area, epoch, image)
					} else {
						none(t, fmt.Sprintf("%d sectors, lengths %d and %d", size, n, m), disk(t, b), at, area)
					}
				}
			}
		}
	}
}

// What the words say of those, spelled out once more: an image of 0 bytes, too,
// asks for the first sector of its area.
func TestP601NoBytes(t *testing.T) {
	for _, x := range []struct {
		size, epoch int
		ok          bool
	}{{2, 2, false}, {3, 2, true}, {4, 2, true}, {3, 3, false}, {5, 3, false}, {6, 3, true}} {
		b := dirt(x.size)
		put(b, x.epoch%2, root(x.epoch, 0))
		if x.ok {
			tells(t, "no bytes", disk(t, b), 0, 3, x.epoch, nil)
		} else {
			none(t, "no bytes, no area", disk(t, b), 0, 3)
		}
	}
}

// A Write asks for the sectors that its bytes take, and for its root.
func TestP601WriteOnShortDisks(t *testing.T) {
	const area = 3
	for size := range roots.Need(area) + 1 {
		for _, epoch := range []int{5, 6} {
			for _, n := range lengths(area) {
				before := dirt(size)
				d := disk(t, before)
				first, need := 2+epoch%2*area, len(filled(text(1, n)))/api.Sector
				goes := epoch%2 < size && (need == 0 || first+need <= size)
				err := roots.Write(d, 0, area, epoch, text(1, n))
				if goes != (err == api.OK) || !goes && err != api.ErrDisk {
					t.Errorf("epoch %d, %d bytes, %d sectors: %d", epoch, n, size, err)
				}
				if !goes && (d.Writes() != size || !bytes.Equal(all(d), before)) {
					t.Errorf("epoch %d, %d bytes, %d sectors: failed, and has written", epoch, n, size)
				}
				if goes && n > 0 {
					tells(t, "it goes", d, 0, area, epoch, text(1, n))
				}
			}
		}
	}
}

// A disk that breaks on the way: so many sectors of the image are written, then
// the root; one that breaks with the root's write can't make it sure.
func TestP601Breaks(t *testing.T) {
	const area = 3
	for _, epoch := range []int{5, 6} {
		for _, n := range lengths(area) {
			b := text(1, n)
			need := len(filled(b)) / api.Sector
			for more := range need + 3 {
				before := laid(dirt(roots.Need(area)), 0, area, epoch-1, text(2, 80))
				d := disk(t, before)
				d.Break(more)
				err := roots.Write(d, 0, area, epoch, b)
				want := api.ErrDisk
				if more > need+1 {
					want = api.OK
				}
				if err != want {
					t.Errorf("%d bytes, broken behind %d: %d, want %d", n, more, err, want)
				}
				left := slices.Clone(before)
				put(left, 2+epoch%2*area, filled(b)[:min(more, need)*api.Sector])
				if more > need {
					put(left, epoch%2, root(epoch, n))
				}
				if !bytes.Equal(all(d), left) {
					t.Errorf("%d bytes, broken behind %d: the disk is otherwise", n, more)
				}
			}
		}
	}
}

// The image is sure ahead of its root's write; the root is not, till the end.
func TestP601SureInTurn(t *testing.T) {
	const area = 2
	for _, n := range []int{0, 1, 64, 65, 128} {
		b := text(1, n)
		need := len(filled(b)) / api.Sector
		before := dirt(roots.Need(area) + 1)
		d := disk(t, before)
		d.Write(roots.Need(area), text(4, api.Sector))
		d.Break(need + 1)
		if err := roots.Write(d, 0, area, 3, b); err != api.ErrDisk {
			t.Fatalf("broken with the root's write: %d", err)
		}
		d.Crash(nil)
		want := slices.Clone(before)
		put(want, 2+area, filled(b))
		put(want, roots.Need(area), text(4, api.Sector))
		if n > 0 && !bytes.Equal(all(d), want) {
			t.Errorf("%d bytes: what is ahead of the root must be sure, the root not", n)
		}
	}
}

// A broken disk is still read.
func TestP601ReadBroken(t *testing.T) {
	d := disk(t, laid(dirt(roots.Need(2)), 0, 2, 7, text(1, 70)))
	d.Break(0)
	tells(t, "a broken disk", d, 0, 2, 7, text(1, 70))
	for _, n := range []int{0, 1, 100} {
		if err := roots.Write(d, 0, 2, 8, text(1, n)); err != api.ErrDisk {
			t.Errorf("Write of %d bytes to a broken disk: %d", n, err)
		}
	}
	if was := d.Writes(); was != roots.Need(2) {
		t.Errorf("%d writes", was)
	}
}

// Read writes nothing, and makes nothing sure.
func TestP601ReadOnlyReads(t *testing.T) {
	before := laid(dirt(roots.Need(2)), 0, 2, 7, text(1, 70))
	d := disk(t, before)
	d.Write(0, root(8, 3))
	tells(t, "not sure", d, 0, 2, 8, dirt(1)[:3])
	if d.Writes() != roots.Need(2)+1 {
		t.Error("Read has written")
	}
	d.Crash(nil)
	if !bytes.Equal(all(d), before) {
		t.Error("Read has made a write sure")
	}
	tells(t, "behind the crash", d, 0, 2, 7, text(1, 70))
}

// Two pairs of roots on one disk, side by side.
func TestP601SideBySide(t *testing.T) {
	d := disk(t, dirt(12))
	for epoch := 1; epoch < 6; epoch++ {
		mustWrite(t, d, 0, 2, epoch, text(epoch, 128))
		mustWrite(t, d, 6, 2, epoch+1, text(epoch+50, 128))
		tells(t, "the first", d, 0, 2, epoch, text(epoch, 128))
		tells(t, "the second", d, 6, 2, epoch+1, text(epoch+50, 128))
	}
}

// pair is a disk and, beside it, its bytes as the document's words spell them.
type pair struct {
	d        *sectors.Disk
	b        []byte
	at, area int
}

func newPair(t testing.TB, chance *rand.Rand) *pair {
	b := dirt(chance.Intn(14))
	return &pair{disk(t, b), b, chance.Intn(4), 1 + chance.Intn(4)}
}

// write is a Write on the plain bytes.
func (p *pair) write(epoch int, b []byte) api.Errno {
	need, size := len(filled(b)), len(p.b)/api.Sector
	switch {
	case epoch < 1:
		return api.ErrArg
	case len(b) > p.area*api.Sector:
		return api.ErrLong
	case need > 0 && (p.at+2+epoch%2*p.area)*api.Sector+need > len(p.b), p.at+epoch%2 >= size:
		return api.ErrDisk
	}
	if need > 0 {
		put(p.b, p.at+2+epoch%2*p.area, filled(b))
	}
	put(p.b, p.at+epoch%2, root(epoch, len(b)))
	return api.OK
}

// step tells both one thing, by chance that is the same in each run, and
// answers what was told otherwise.
func (p *pair) step(chance *rand.Rand) string {
	size := len(p.b) / api.Sector
	if i := p.at + chance.Intn(2); chance.Intn(4) == 0 && i < size {
		b := root(chance.Intn(9)-1, chance.Intn(4*api.Sector)-1)
		put(p.b, i, b)
		p.d.Write(i, b)
		p.d.Sync()
	} else {
		epoch, b := chance.Intn(9)-1, text(chance.Intn(99), chance.Intn(5*api.Sector))
		if chance.Intn(4) == 0 {
			b = nil
		}
		if got, want := roots.Write(p.d, p.at, p.area, epoch, b), p.write(epoch, b); got != want {
			return fmt.Sprintf("Write of epoch %d, %d bytes: %d, want %d", epoch, len(b), got, want)
		}
	}
	if !bytes.Equal(all(p.d), p.b) {
		return "the disk is otherwise"
	}
	e, b, ok := roots.Read(p.d, p.at, p.area)
	we, wb, wok := plainRead(p.b, p.at, p.area)
	if e != we || ok != wok || !bytes.Equal(b, wb) {
		return fmt.Sprintf("Read: %d, %q, %v, want %d, %q, %v", e, b, ok, we, wb, wok)
	}
	return ""
}

func TestP601ByChance(t *testing.T) {
	for seed := range 500 {
		chance := rand.New(rand.NewSource(int64(seed)))
		p := newPair(t, chance)
		for k := range 60 {
			if wrong := p.step(chance); wrong != "" {
				t.Fatalf("seed %d, step %d: %s", seed, k, wrong)
			}
		}
	}
}

// bits is which writes stay.
func bits(mask, n int) []bool {
	keep := make([]bool, n)
	for i := range keep {
		keep[i] = mask>>i&1 == 1
	}
	return keep
}

// survives checks that a disk tells e with its image, or, if that may be, the
// next with the new one; a Write that was OK leaves the next alone.
func survives(t testing.TB, what string, d *sectors.Disk, area, e int, old, image []byte, err api.Errno) int {
	t.Helper()
	got, b, ok := roots.Read(d, 0, area)
	switch {
	case ok && got == e+1 && bytes.Equal(b, image):
	case got == e && ok == (e > 0) && bytes.Equal(b, old) && err != api.OK:
	default:
		t.Errorf("%s: %d, Read: %d, %q, %v, was %d, %q", what, err, got, b, ok, e, old)
	}
	return got
}

// Every break, every keep, on what three epochs ahead have left, then once more
// on what the crash left.
func TestP602Crashes(t *testing.T) {
	const area = 3
	for _, e := range []int{0, 1, 2, 3, 1<<32 - 1} {
		for _, n := range lengths(area) {
			for more := range 7 {
				for mask := range 16 {
					what := fmt.Sprintf("epoch %d, %d bytes, broken behind %d, mask %x", e+1, n, more, mask)
					b := dirt(roots.Need(area))
					for k := max(e-2, 1); k <= e; k++ {
						b = laid(b, 0, area, k, text(k, 150))
					}
					d := disk(t, b)
					old := text(e, min(e, 1)*150)
					d.Break(more)
					err := roots.Write(d, 0, area, e+1, text(99, n))
					d.Crash(bits(mask, 6))
					got := survives(t, what, d, area, e, old, text(99, n), err)
					if got == e+1 {
						old = text(99, n)
					}
					d.Break((more + mask) % 7)
					err = roots.Write(d, 0, area, got+1, text(77, 100))
					d.Crash(bits(mask, 6))
					survives(t, what+", again", d, area, got, old, text(77, 100), err)
				}
			}
		}
	}
}

// Long runs of writes, breaks and crashes: nothing that was OK is lost, nothing
// comes that was not written.
func TestP602ByChance(t *testing.T) {
	for seed := range 200 {
		chance := rand.New(rand.NewSource(int64(seed)))
		area := 1 + chance.Intn(4)
		d := disk(t, dirt(roots.Need(area)))
		e, had := 0, []byte(nil)
		for range 60 {
			next := text(chance.Intn(99), chance.Intn(area*api.Sector+1))
			if chance.Intn(3) == 0 {
				d.Break(chance.Intn(7))
			}
			err := roots.Write(d, 0, area, e+1, next)
			d.Crash(bits(chance.Intn(64), 6))
			if got := survives(t, fmt.Sprintf("seed %d", seed), d, area, e, had, next, err); got == e+1 {
				e, had = got, next
			}
		}
	}
}

func TestP602NilDisk(t *testing.T) {
	for _, at := range append(wrongPlaces(), 0, 1) {
		for _, area := range []int{math.MinInt, -1, 0, 1, 5, math.MaxInt} {
			none(t, "a nil disk", nil, at, area)
			for _, n := range []int{0, 1, 64} {
				if err := roots.Write(nil, at, area, 1, text(1, n)); err != api.ErrDisk {
					t.Errorf("Write of %d bytes to a nil disk: %d", n, err)
				}
			}
			if roots.Write(nil, at, area, 0, nil) != api.ErrArg || roots.Write(nil, at, area, 1, text(1, 1000*api.Sector+1)) != api.ErrLong {
				t.Error("what is refused, to a nil disk")
			}
		}
	}
}

// What is handed in stays as it is, its spare room too, and is not kept.
func TestP602WhatIsHandedIn(t *testing.T) {
	const area = 3
	for _, n := range lengths(area) {
		for _, more := range []int{0, 1, 2, 9} {
			d := disk(t, dirt(roots.Need(area)))
			d.Break(more)
			room := text(1, n+2*api.Sector)
			err := roots.Write(d, 0, area, 4, room[:n])
			if !bytes.Equal(room, text(1, n+2*api.Sector)) {
				t.Errorf("Write of %d bytes changes what was handed in", n)
			}
			clear(room)
			if err == api.OK {
				tells(t, "what was handed in changes", d, 0, area, 4, text(1, n))
			}
		}
	}
}

func TestP602AnswersAreNewMemory(t *testing.T) {
	const area = 3
	for _, n := range lengths(area) {
		d := disk(t, dirt(roots.Need(area)))
		mustWrite(t, d, 0, area, 4, text(1, n))
		_, first, _ := roots.Read(d, 0, area)
		_, second, _ := roots.Read(d, 0, area)
		clear(first)
		_ = append(first, make([]byte, 2*api.Sector)...)
		if !bytes.Equal(second, text(1, n)) {
			t.Errorf("%d bytes: two answers are shared", n)
		}
		tells(t, "an answer changes", d, 0, area, 4, text(1, n))
		mustWrite(t, d, 0, area, 6, text(2, n))
		if !bytes.Equal(second, text(1, n)) {
			t.Errorf("%d bytes: an answer changes with the disk", n)
		}
	}
}

// What was told may be written again.
func TestP602ReadIsWritten(t *testing.T) {
	d := disk(t, dirt(roots.Need(3)))
	mustWrite(t, d, 0, 3, 1, text(1, 150))
	for epoch := 2; epoch < 6; epoch++ {
		_, b, _ := roots.Read(d, 0, 3)
		mustWrite(t, d, 0, 3, epoch, b)
		tells(t, "written again", d, 0, 3, epoch, text(1, 150))
	}
}

// Many disks at once: each one is told what it was told alone.
func TestP602HangsOnArguments(t *testing.T) {
	tell := func() string {
		chance := rand.New(rand.NewSource(3))
		p := newPair(t, chance)
		var l strings.Builder
		for range 100 {
			l.WriteString(p.step(chance))
			e, b, ok := roots.Read(p.d, p.at, p.area)
			fmt.Fprintf(&l, "%d %q %v", e, b, ok)
		}
		return l.String()
	}
	want := tell()
	got := make([]string, 16)
	var group sync.WaitGroup
	for i := range got {
		group.Add(1)
		go func() {
			defer group.Done()
			got[i] = tell()
		}()
	}
	group.Wait()
	for i := range got {
		if got[i] != want {
			t.Errorf("disk %d is otherwise", i)
		}
	}
}
