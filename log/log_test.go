package log_test

import (
	"bytes"
	"encoding/binary"
	"fmt"
	"math"
	"math/rand"
	"slices"
	"strings"
	"sync"
	"testing"

	"poste/api"
	"poste/log"
	"poste/sectors"
)

// epochs are some, those at the edges of numbers with them.
func epochs() []int { return []int{1, 2, 0, -1, 255, 256, 1 << 40, math.MaxInt, math.MinInt} }

// lengths are those at the edges of a sector, and some between.
func lengths() []int {
	l := []int{0, 1, 2, 31, 40}
	for k := 1; k <= 3; k++ {
		l = append(l, k*api.Sector-1, k*api.Sector, k*api.Sector+1)
	}
	return l
}

// text is n bytes that hang on c; none of them is 0.
func text(c, n int) []byte {
	b := make([]byte, n)
	for i := range b {
		b[i] = byte(1 + (c*31+i+i/api.Sector*7)%255)
	}
	return b
}

// head is the sector of a record's head, byte by byte as the document says.
func head(epoch, number, n int) []byte {
	b := []byte("\x03\x00rec")
	for _, v := range []int{epoch, number, n} {
		b = binary.LittleEndian.AppendUint64(b, uint64(v))
	}
	return append(b, make([]byte, api.Sector-len(b))...)
}

// filled is b with bytes 0 behind, up to whole sectors.
func filled(b []byte) []byte {
	b = slices.Clone(b)
	for len(b)%api.Sector != 0 {
		b = append(b, 0)
	}
	return b
}

// record is the sectors of a record, one behind the other.
func record(epoch, number int, b []byte) []byte {
	return append(head(epoch, number, len(b)), filled(b)...)
}

// zero is a sector of bytes 0, dirt one that no log has written.
func zero() []byte { return make([]byte, api.Sector) }
func dirt() []byte { return bytes.Repeat([]byte{0xEE}, api.Sector) }

// disk is a new one of n sectors of dirt, all sure.
func disk(t testing.TB, n int) *sectors.Disk {
	t.Helper()
	d := sectors.New(n)
	lay(t, d, 0, bytes.Repeat(dirt(), n))
	return d
}

// lay puts whole sectors on a disk, and makes them sure.
func lay(t testing.TB, d *sectors.Disk, at int, b []byte) {
	t.Helper()
	for i := 0; i < len(b); i += api.Sector {
		if !d.Write(at+i/api.Sector, b[i:i+api.Sector]) {
			t.Fatalf("sector %d can't be written", at+i/api.Sector)
		}
	}
	if !d.Sync() {
		t.Fatal("Sync: false")
	}
}

// all is what is on a disk, one sector behind the other.
func all(d *sectors.Disk) []byte {
	var b []byte
	for i := range d.Len() {
		b = append(b, d.Read(i)...)
	}
	return b
}

// same tells whether two lists have the same bytes.
func same(a, b [][]byte) bool { return slices.EqualFunc(a, b, bytes.Equal) }

// tells checks all that a log tells.
func tells(t testing.TB, what string, l *log.Log, room int, want ...[]byte) {
	t.Helper()
	if got := l.Records(); !same(got, want) {
		t.Errorf("%s: Records: %q, want %q", what, got, want)
	}
	if got := l.Room(); got != room {
		t.Errorf("%s: Room: %d, want %d", what, got, room)
	}
}

// mustAppend appends what must go.
func mustAppend(t testing.TB, l *log.Log, l2 ...[]byte) {
	t.Helper()
	for i, b := range l2 {
		if err := l.Append(b); err != api.OK {
			t.Fatalf("Append %d, of %d bytes: %d", i, len(b), err)
		}
	}
}

// plain is a log as the document's words spell it, on a disk of its own: it
// goes over all its records, each time anew.
type plain struct {
	d            *sectors.Disk
	at, n, epoch int
	records      [][]byte
	failed       bool
}

// openPlain reads the sectors from at on as long as they are records.
func openPlain(d *sectors.Disk, at, n, epoch int) *plain {
	p := &plain{d: d, at: at, epoch: epoch}
	for p.n < n && len(d.Read(at+p.n)) > 0 {
		p.n++
	}
	for p.left() > 0 {
		b := d.Read(p.at + p.n - p.left())
		size := int(binary.LittleEndian.Uint64(b[21:]))
		if size < 0 || size > p.room() || !bytes.Equal(b, head(epoch, len(p.records)+1, size)) {
			break
		}
		var body []byte
		for i := 1; len(body) < size; i++ {
			body = append(body, d.Read(p.at+p.n-p.left()+i)...)
		}
		p.records = append(p.records, body[:size])
	}
	return p
}

// left is how many sectors are behind the last record.
func (p *plain) left() int {
	left := p.n
	for i, b := range p.records {
		left -= len(record(p.epoch, i+1, b)) / api.Sector
	}
	return left
}

func (p *plain) room() int { return max(p.left()*api.Sector-api.Sector, 0) }

// parts are the writes of an Append of b: those ahead of the first Sync, and
// the head.
func (p *plain) parts(b []byte) (first []write, last write) {
	at, body := p.at+p.n-p.left(), filled(b)
	for i := 0; i < len(body); i += api.Sector {
		first = append(first, write{at + 1 + i/api.Sector, body[i : i+api.Sector]})
	}
	if len(body)/api.Sector+1 < p.left() {
		first = append(first, write{at + 1 + len(body)/api.Sector, zero()})
	}
	return first, write{at, head(p.epoch, len(p.records)+1, len(b))}
}

type write struct {
	at int
	b  []byte
}

func (p *plain) Append(b []byte) api.Errno {
	if p.failed {
		return api.ErrDisk
	}
	if p.left() == 0 || len(b) > p.room() {
		return api.ErrLong
	}
	first, last := p.parts(b)
	p.failed = true
	for _, w := range first {
		if !p.d.Write(w.at, w.b) {
			return api.ErrDisk
		}
	}
	if !p.d.Sync() || !p.d.Write(last.at, last.b) || !p.d.Sync() {
		return api.ErrDisk
	}
	p.failed = false
	p.records = append(p.records, slices.Clone(b))
	return api.OK
}

func TestP501Examples(t *testing.T) {
	for _, n := range []int{0, 1, 2, 9, api.LogLen} {
		for _, epoch := range epochs() {
			d := sectors.New(n)
			l := log.Open(d, 0, n, epoch)
			tells(t, "a new disk", l, max(n-1, 0)*api.Sector)
			if d.Writes() != 0 {
				t.Error("Open writes")
			}
		}
	}
}

// Where an Append of b puts its bytes: at each place of a disk, for each length
// that fits, with one more sector behind it or none.
func TestP501Layout(t *testing.T) {
	for _, size := range lengths() {
		for _, epoch := range epochs() {
			for more := range 3 {
				for at := range 2 {
					b := text(1, size)
					need := len(record(epoch, 1, b)) / api.Sector
					d := disk(t, at+need+more+1)
					was := d.Writes()
					l := log.Open(d, at, need+more, epoch)
					mustAppend(t, l, b)
					want := slices.Concat(bytes.Repeat(dirt(), at), record(epoch, 1, b))
					writes := need
					if more > 0 {
						want = append(want, zero()...)
						writes++
					}
					for len(want) < d.Len()*api.Sector {
						want = append(want, dirt()...)
					}
					if !bytes.Equal(all(d), want) || d.Writes()-was != writes {
						t.Errorf("Append of %d bytes, %d sectors behind it: %d writes, %q", size, more, d.Writes()-was, all(d))
					}
					tells(t, "Append", l, max(more-1, 0)*api.Sector, b)
				}
			}
		}
	}
}

// Records stand one behind the other, numbered from 1 on.
func TestP501OneBehindTheOther(t *testing.T) {
	for _, epoch := range epochs() {
		const at, n = 2, 30
		d := disk(t, at+n+2)
		l := log.Open(d, at, n, epoch)
		var had [][]byte
		var want []byte
		for i, size := range []int{5, 0, 64, 65, 0, 0, 200, 63, 128} {
			b := text(i, size)
			mustAppend(t, l, b)
			had = append(had, b)
			want = append(want, record(epoch, i+1, b)...)
			room := (n-1)*api.Sector - len(want)
			tells(t, "since", l, room, had...)
			tells(t, "opened anew", log.Open(d, at, n, epoch), room, had...)
			got := all(d)[at*api.Sector:]
			if !bytes.Equal(got[:len(want)], want) || !bytes.Equal(got[len(want):len(want)+api.Sector], zero()) {
				t.Errorf("behind Append %d: %q", i, got)
			}
		}
		got := all(d)
		if !bytes.Equal(got[:at*api.Sector], bytes.Repeat(dirt(), at)) || !bytes.Equal(got[(at+n)*api.Sector:], bytes.Repeat(dirt(), 2)) {
			t.Error("a sector beside the log is written")
		}
	}
}

// A log that was opened goes on behind what was found.
func TestP501GoesOn(t *testing.T) {
	d := disk(t, 20)
	var had [][]byte
	for i, size := range []int{10, 0, 100, 64} {
		l := log.Open(d, 0, 20, 7)
		b := text(i, size)
		mustAppend(t, l, b)
		had = append(had, b)
		if !same(l.Records(), had) {
			t.Errorf("Append %d: %q, want %q", i, l.Records(), had)
		}
	}
	want := slices.Concat(record(7, 1, had[0]), record(7, 2, had[1]), record(7, 3, had[2]), record(7, 4, had[3]), zero())
	if got := all(d)[:len(want)]; !bytes.Equal(got, want) {
		t.Errorf("%q, want %q", got, want)
	}
}

// wrongHeads are sectors that are no head of the record of that epoch and
// number; n is the length of a record that lies there.
func wrongHeads(epoch, number, n int) map[string][]byte {
	good := head(epoch, number, n)
	turned := func(i int, c byte) []byte {
		b := slices.Clone(good)
		b[i] ^= c
		return b
	}
	wrong := map[string][]byte{
		"zero": zero(), "dirt": dirt(), "full": bytes.Repeat([]byte{0xFF}, api.Sector),
		"the epoch ahead": head(epoch-1, number, n), "the next epoch": head(epoch+1, number, n),
		"number 0": head(epoch, 0, n), "the number ahead": head(epoch, number-1, n), "the next number": head(epoch, number+1, n),
		"a number below 0": head(epoch, -number, n),
		"epoch and number": head(number+40, epoch+40, n),
		"a shorter tag":    append([]byte("\x02\x00re"), append(slices.Clone(good[5:]), 0)...),
		"a longer tag":     append([]byte("\x04\x00recx"), good[5:63]...),
		"another tag":      append([]byte("\x04\x00root"), good[5:63]...),
		"an empty tag":     append([]byte("\x00\x00"), append(slices.Clone(good[5:]), 0, 0, 0)...),
		"a long tag":       append([]byte("\xff\xff"), good[2:]...),
		"large letters":    append([]byte("\x03\x00REC"), good[5:]...),
	}
	for i := range good {
		if i < 21 || i >= 29 {
			wrong[fmt.Sprintf("byte %d", i)] = turned(i, 1)
			wrong[fmt.Sprintf("byte %d, its highest bit", i)] = turned(i, 0x80)
		}
	}
	return wrong
}

func TestP501WrongHeads(t *testing.T) {
	const n = 10
	for number := 1; number <= 3; number++ {
		for what, wrong := range wrongHeads(4, number, 70) {
			if len(wrong) != api.Sector {
				t.Fatalf("%s: %d bytes", what, len(wrong))
			}
			var had [][]byte
			var lies []byte
			for i := 1; i < number; i++ {
				had = append(had, text(i, 64))
				lies = append(lies, record(4, i, text(i, 64))...)
			}
			d := disk(t, n)
			lay(t, d, 0, slices.Concat(lies, record(4, number, text(9, 70)), record(4, number+1, nil)))
			room := (n-1)*api.Sector - len(lies)
			tells(t, "right heads", log.Open(d, 0, n, 4), room-4*api.Sector, append(slices.Clone(had), text(9, 70), nil)...)
			lay(t, d, len(lies)/api.Sector, wrong)
			tells(t, what, log.Open(d, 0, n, 4), room, had...)
		}
	}
}

// A head tells its length: one that can't be, or that leads out of the log, is
// no record; each other one is.
func TestP501Lengths(t *testing.T) {
	const n = 6
	for at := range 3 {
		for end := range 3 {
			d := disk(t, at+n+end)
			for size := -2; size <= (n+2)*api.Sector; size++ {
				lay(t, d, at, head(3, 1, size))
				l := log.Open(d, at, n, 3)
				if size < 0 || size > (n-1)*api.Sector {
					tells(t, fmt.Sprintf("a length of %d", size), l, (n-1)*api.Sector)
					continue
				}
				need := (size + api.Sector - 1) / api.Sector
				tells(t, fmt.Sprintf("a length of %d", size), l, max(n-2-need, 0)*api.Sector, bytes.Repeat([]byte{0xEE}, size))
			}
			for _, size := range []int{math.MinInt, math.MinInt + 1, -64, -63, -1, math.MaxInt, math.MaxInt - 63, math.MaxInt - 64, 1 << 62, 1 << 32, 1<<32 + 1, 1 << 16, api.Sector * api.MaxSectors} {
				lay(t, d, at, head(3, 1, size))
				tells(t, fmt.Sprintf("a length of %d", size), log.Open(d, at, n, 3), (n-1)*api.Sector)
			}
		}
	}
}

// Of the bytes behind b in its last sector nothing is said: they may be any.
func TestP501FillIsNotLookedAt(t *testing.T) {
	d := disk(t, 5)
	lay(t, d, 0, slices.Concat(head(3, 1, 5), append(text(1, 5), dirt()[5:]...), head(3, 2, 0)))
	tells(t, "dirt behind b", log.Open(d, 0, 5, 3), api.Sector, text(1, 5), nil)
}

// The log ends with its sectors, not with the disk's: what lies behind is none
// of its records.
func TestP501EndsWithItsSectors(t *testing.T) {
	d := disk(t, 12)
	lay(t, d, 2, slices.Concat(record(3, 1, text(1, 100)), record(3, 2, nil), record(3, 3, text(3, 64)), record(3, 4, text(4, 1))))
	for n := -1; n <= 14; n++ {
		var want [][]byte
		left := min(max(n, 0), 10)
		for i, x := range []struct{ need, size int }{{3, 100}, {1, 0}, {2, 64}, {2, 1}} {
			if left < x.need {
				break
			}
			left -= x.need
			want = append(want, text(i+1, x.size))
		}
		tells(t, fmt.Sprintf("%d sectors", n), log.Open(d, 2, n, 3), max(left-1, 0)*api.Sector, want...)
	}
}

// Open looks at at, and nowhere else, for the first record.
func TestP501LooksAtAt(t *testing.T) {
	d := disk(t, 8)
	lay(t, d, 3, slices.Concat(record(3, 1, text(1, 9)), record(3, 2, nil)))
	for at := -2; at < 10; at++ {
		l := log.Open(d, at, 100, 3)
		switch {
		case at == 3:
			tells(t, "at its place", l, api.Sector, text(1, 9), nil)
		case at < 0 || at > 7:
			tells(t, "at no place", l, 0)
		default:
			tells(t, "beside it", l, (7-at)*api.Sector)
		}
	}
}

// Where there are no sectors, nothing fits, and nothing is written.
func TestP501NoSectors(t *testing.T) {
	for _, size := range []int{0, 1, 5} {
		d := disk(t, size)
		if size > 0 {
			lay(t, d, 0, record(3, 1, nil))
		}
		was, had := d.Writes(), all(d)
		open := func(at, n int) {
			l := log.Open(d, at, n, 3)
			tells(t, fmt.Sprintf("%d sectors at %d", n, at), l, 0)
			for _, b := range [][]byte{nil, {}, text(1, 1), text(1, 64), text(1, 1000)} {
				if err := l.Append(b); err != api.ErrLong {
					t.Errorf("%d sectors at %d of %d: Append of %d bytes: %d", n, at, size, len(b), err)
				}
			}
			tells(t, "and then", l, 0)
		}
		for _, at := range []int{-1, -2, math.MinInt, math.MinInt + 1, size, size + 1, math.MaxInt - 1, math.MaxInt} {
			for _, n := range []int{-1, 0, 1, 2, math.MaxInt, math.MinInt, -at} {
				open(at, n)
			}
		}
		for at := range size {
			for _, n := range []int{0, -1, math.MinInt} {
				open(at, n)
			}
		}
		if d.Writes() != was || !bytes.Equal(all(d), had) {
			t.Errorf("a log of no sectors writes")
		}
	}
}

// n is cut to as many as there are; far numbers don't wrap round.
func TestP501Cut(t *testing.T) {
	for at := range 5 {
		for _, n := range []int{5 - at, 6 - at, 100, math.MaxInt - 2, math.MaxInt - 1, math.MaxInt} {
			d := disk(t, 5)
			l := log.Open(d, at, n, 3)
			room := (4 - at) * api.Sector
			tells(t, "cut", l, room)
			if err := l.Append(text(1, room+1)); err != api.ErrLong {
				t.Errorf("at %d, %d sectors: Append of one byte more: %d", at, n, err)
			}
			mustAppend(t, l, text(1, room))
			tells(t, "full", log.Open(d, at, n, 3), 0, text(1, room))
		}
	}
}

// Room is what fits, and one byte more does not, at each fill of a log.
func TestP501Room(t *testing.T) {
	for n := range 7 {
		for used := range n + 1 {
			d := disk(t, 9)
			l := log.Open(d, 1, n, 3)
			had := slices.Repeat([][]byte{nil}, used)
			mustAppend(t, l, had...)
			room := max(n-used-1, 0) * api.Sector
			tells(t, "so far", l, room, had...)
			was, bytesWas := d.Writes(), all(d)
			for _, more := range []int{1, 2, 64, 1000, 70000, 300000} {
				if err := l.Append(text(1, room+more)); err != api.ErrLong {
					t.Errorf("%d of %d sectors: Append of %d more than Room: %d", used, n, more, err)
				}
			}
			if used == n && l.Append(nil) != api.ErrLong {
				t.Error("a full log has room for a head")
			}
			if d.Writes() != was || !bytes.Equal(all(d), bytesWas) {
				t.Error("what does not fit is written")
			}
			tells(t, "behind ErrLong", l, room, had...)
			if used < n {
				mustAppend(t, l, text(2, room))
				had = append(had, text(2, room))
			}
			tells(t, "full", l, 0, had...)
			tells(t, "opened", log.Open(d, 1, n, 3), 0, had...)
		}
	}
}

// What is too long has not used up a Break, nor has the log failed by it.
func TestP501LongDoesNotFail(t *testing.T) {
	d := disk(t, 4)
	l := log.Open(d, 0, 4, 3)
	d.Break(4)
	for range 3 {
		if err := l.Append(text(1, 3*api.Sector+1)); err != api.ErrLong {
			t.Errorf("Append: %d", err)
		}
	}
	mustAppend(t, l, text(1, api.Sector))
	d.Crash(nil)
	d.Break(0)
	if err := l.Append(text(1, 2*api.Sector)); err != api.ErrLong {
		t.Errorf("on a broken disk that has not failed the log: %d", err)
	}
	if err := l.Append(nil); err != api.ErrDisk {
		t.Errorf("on a broken disk: %d", err)
	}
}

// The disk breaks at each write: those ahead are done, in their order, no
// further one is; the log takes nothing any more, whatever comes.
func TestP501Fails(t *testing.T) {
	const at, n = 1, 9
	for _, size := range lengths() {
		for more := range 7 {
			d := disk(t, at+n+1)
			l := log.Open(d, at, n, 3)
			mustAppend(t, l, text(5, 70))
			p := openPlain(d, at, n, 3)
			first, last := p.parts(text(1, size))
			if more > len(first)+1 {
				continue
			}
			want, was := all(d), d.Writes()
			for _, w := range append(first, last)[:more] {
				copy(want[w.at*api.Sector:], w.b)
			}
			d.Break(more)
			if err := l.Append(text(1, size)); err != api.ErrDisk {
				t.Errorf("%d bytes, broken behind %d writes: %d", size, more, err)
			}
			if d.Writes()-was != more || !bytes.Equal(all(d), want) {
				t.Errorf("%d bytes, broken behind %d writes: %d writes, %q", size, more, d.Writes()-was, all(d))
			}
			tells(t, "failed", l, (n-4)*api.Sector, text(5, 70))
			failed(t, l)
			d.Crash(nil)
			failed(t, l)
			tells(t, "failed, behind a crash", l, (n-4)*api.Sector, text(5, 70))
			tells(t, "opened anew", log.Open(d, at, n, 3), (n-4)*api.Sector, text(5, 70))
		}
	}
}

// failed checks that a log takes no further records, and writes nothing.
func failed(t *testing.T, l *log.Log) {
	t.Helper()
	was := l.Writes()
	for _, b := range [][]byte{nil, {}, text(1, 1), text(1, 64), text(1, l.Room()), text(1, l.Room()+1), text(1, 5000)} {
		if err := l.Append(b); err != api.ErrDisk {
			t.Errorf("it has failed: Append of %d bytes: %d", len(b), err)
		}
	}
	if l.Writes() != was {
		t.Error("it has failed, and writes")
	}
}

// Ahead of its head the record is sure: of the writes that are not, the head is
// the first and the only one.
func TestP501SureAheadOfItsHead(t *testing.T) {
	const n = 8
	for _, size := range lengths() {
		for mask := range 4 {
			d := disk(t, n)
			l := log.Open(d, 0, n, 3)
			p := openPlain(d, 0, n, 3)
			first, _ := p.parts(text(1, size))
			d.Break(len(first) + 1)
			if err := l.Append(text(1, size)); err != api.ErrDisk {
				t.Fatalf("Append of %d bytes: %d", size, err)
			}
			d.Crash([]bool{mask&1 == 1, mask&2 == 2})
			opened := log.Open(d, 0, n, 3)
			if mask&1 == 1 {
				tells(t, "the head stays", opened, (n-1)*api.Sector-len(record(3, 1, text(1, size))), text(1, size))
			} else {
				tells(t, "the head does not stay", opened, (n-1)*api.Sector)
			}
			body := filled(text(1, size))
			if got := all(d)[api.Sector:]; !bytes.Equal(got[:len(body)], body) || !bytes.Equal(got[len(body):len(body)+api.Sector], zero()) {
				t.Errorf("%d bytes: what stands behind the head is not sure: %q", size, got)
			}
		}
	}
}

// What was appended is sure when Append says OK.
func TestP501SureWhenOK(t *testing.T) {
	d := disk(t, 20)
	l := log.Open(d, 0, 20, 3)
	var had [][]byte
	for i, size := range []int{0, 5, 64, 0, 130} {
		mustAppend(t, l, text(i, size))
		had = append(had, text(i, size))
		d.Crash(nil)
		if got := log.Open(d, 0, 20, 3).Records(); !same(got, had) {
			t.Errorf("behind a crash: %q, want %q", got, had)
		}
		if !same(l.Records(), had) {
			t.Errorf("the same log behind a crash: %q, want %q", l.Records(), had)
		}
	}
}

// The sector behind a record is cleared: an old head that stands there, with
// the number that comes next, is none.
func TestP501OldHeads(t *testing.T) {
	const n = 8
	for _, size := range lengths() {
		d := sectors.New(n)
		lay(t, d, 0, bytes.Repeat(head(3, 2, 0), n))
		l := log.Open(d, 0, n, 3)
		tells(t, "old heads", l, (n-1)*api.Sector)
		mustAppend(t, l, text(1, size))
		room := (n-1)*api.Sector - len(record(3, 1, text(1, size)))
		tells(t, "old heads", log.Open(d, 0, n, 3), room, text(1, size))
	}
}

// Bodies that look like heads are none.
func TestP501BodiesLikeHeads(t *testing.T) {
	d := sectors.New(20)
	l := log.Open(d, 0, 20, 3)
	like := slices.Concat(head(3, 2, 0), head(3, 3, 0), head(3, 4, 64))
	mustAppend(t, l, like[:64], like, nil, like[:128])
	tells(t, "appended", l, 9*api.Sector, like[:64], like, nil, like[:128])
	tells(t, "opened", log.Open(d, 0, 20, 3), 9*api.Sector, like[:64], like, nil, like[:128])
}

// Logs of other epochs on the same sectors begin anew.
func TestP501Epochs(t *testing.T) {
	d := disk(t, 10)
	for i, epoch := range epochs() {
		old := log.Open(d, 0, 10, epoch)
		tells(t, "an epoch that was none", old, 9*api.Sector)
		mustAppend(t, old, text(i, 100), text(i+1, 3), nil)
		for _, other := range epochs() {
			l := log.Open(d, 0, 10, other)
			if other == epoch {
				tells(t, "that epoch", l, 3*api.Sector, text(i, 100), text(i+1, 3), nil)
			} else {
				tells(t, "another epoch", l, 9*api.Sector)
			}
		}
	}
}

// A later epoch's first record leaves the old ones behind it: they are none of
// its records, whatever their numbers.
func TestP501EpochOverAnother(t *testing.T) {
	d := disk(t, 10)
	mustAppend(t, log.Open(d, 0, 10, 1), nil, nil, nil, nil, nil)
	for used := range 5 {
		l := log.Open(d, 0, 10, 2)
		had := slices.Repeat([][]byte{nil}, used)
		tells(t, "the new epoch", l, (9-used)*api.Sector, had...)
		mustAppend(t, l, nil)
	}
}

// Two logs on one disk, side by side.
func TestP501SideBySide(t *testing.T) {
	d := disk(t, 12)
	a, b := log.Open(d, 0, 6, 1), log.Open(d, 6, 6, 1)
	mustAppend(t, a, text(1, 64))
	mustAppend(t, b, text(2, 3*64))
	mustAppend(t, a, text(3, 3*64))
	mustAppend(t, b, text(4, 64)[:0])
	tells(t, "the first", a, 0, text(1, 64), text(3, 192))
	tells(t, "the second", b, 0, text(2, 192), nil)
	tells(t, "the first, opened", log.Open(d, 0, 6, 1), 0, text(1, 64), text(3, 192))
	tells(t, "the second, opened", log.Open(d, 6, 6, 1), 0, text(2, 192), nil)
}

// All that a disk has, and a record of it all.
func TestP501Large(t *testing.T) {
	const most = api.Sector * (api.MaxSectors - 1)
	d := sectors.New(api.MaxSectors)
	l := log.Open(d, 0, math.MaxInt, 3)
	tells(t, "new", l, most)
	if err := l.Append(text(1, most+1)); err != api.ErrLong {
		t.Errorf("one byte more: %d", err)
	}
	mustAppend(t, l, text(1, most))
	tells(t, "full", l, 0, text(1, most))
	tells(t, "opened", log.Open(d, 0, api.MaxSectors, 3), 0, text(1, most))

	d = sectors.New(api.MaxSectors)
	l = log.Open(d, 0, api.MaxSectors, 3)
	many := slices.Repeat([][]byte{nil}, api.MaxSectors)
	mustAppend(t, l, many...)
	tells(t, "heads alone", l, 0, many...)
	tells(t, "heads alone, opened", log.Open(d, 0, api.MaxSectors, 3), 0, many...)
}

// A broken disk is still read.
func TestP501OpenBroken(t *testing.T) {
	d := disk(t, 6)
	mustAppend(t, log.Open(d, 0, 6, 3), text(1, 70))
	d.Break(0)
	l := log.Open(d, 0, 6, 3)
	tells(t, "a broken disk", l, 2*api.Sector, text(1, 70))
	if err := l.Append(nil); err != api.ErrDisk {
		t.Errorf("Append: %d", err)
	}
	failed(t, l)
}

// disks is what a log has of its disk.
type disks interface {
	Len() int
	Read(i int) []byte
	Write(i int, b []byte) bool
	Sync() bool
	Crash(keep []bool)
	Break(n int)
	Writes() int
}

// A log embeds its disk, with all its methods.
func TestP501Embeds(t *testing.T) {
	d := disk(t, 6)
	l := log.Open(d, 2, 4, 3)
	var has disks = l
	if l.Disk != d || has.Len() != 6 || !bytes.Equal(has.Read(5), dirt()) {
		t.Error("the disk is not the log's")
	}
	if !has.Write(0, text(1, 64)) || !has.Write(5, text(2, 64)) || !has.Sync() || !bytes.Equal(d.Read(0), text(1, 64)) || has.Writes() != 8 || d.Writes() != 8 {
		t.Error("a sector that the log is told is not the disk's")
	}
	has.Write(1, text(3, 64))
	has.Crash(nil)
	has.Break(2)
	if !bytes.Equal(d.Read(1), dirt()) || !bytes.Equal(d.Read(5), text(2, 64)) {
		t.Error("Crash")
	}
	if err := l.Append(text(1, 64)); err != api.ErrDisk {
		t.Errorf("Break: %d", err)
	}
}

// pair is a log and its plain twin, each on a disk of its own.
type pair struct {
	size, at, n int
	epoch       int
	l           *log.Log
	p           *plain
}

func (x *pair) open(chance *rand.Rand) {
	if chance.Intn(3) == 0 {
		x.epoch++
	}
	x.l = log.Open(x.l.Disk, x.at, x.n, x.epoch)
	x.p = openPlain(x.p.d, x.at, x.n, x.epoch)
}

// step tells both one thing, by chance that is the same in each run, and
// answers what was told otherwise.
func (x *pair) step(chance *rand.Rand) string {
	switch chance.Intn(12) {
	default:
		b := text(chance.Intn(99), chance.Intn(3*api.Sector))
		if chance.Intn(4) == 0 {
			b = head(x.epoch, len(x.p.records)+chance.Intn(3), chance.Intn(70))
		}
		got, want := x.l.Append(b), x.p.Append(b)
		if got != want {
			return fmt.Sprintf("Append of %d bytes: %d, want %d", len(b), got, want)
		}
	case 0, 1:
		x.open(chance)
	case 2:
		keep := make([]bool, chance.Intn(6))
		for i := range keep {
			keep[i] = chance.Intn(2) == 0
		}
		x.l.Crash(keep)
		x.p.d.Crash(keep)
		x.open(chance)
	case 3:
		n := chance.Intn(12)
		x.l.Break(n)
		x.p.d.Break(n)
	}
	if !same(x.l.Records(), x.p.records) || x.l.Room() != x.p.room() {
		return fmt.Sprintf("Records %q, Room %d, want %q, %d", x.l.Records(), x.l.Room(), x.p.records, x.p.room())
	}
	if !bytes.Equal(all(x.l.Disk), all(x.p.d)) || x.l.Writes() != x.p.d.Writes() {
		return "the disk is otherwise"
	}
	return ""
}

func newPair(t testing.TB, chance *rand.Rand) *pair {
	x := &pair{size: chance.Intn(24), epoch: chance.Intn(3) - 1}
	x.at, x.n = chance.Intn(5)-1, chance.Intn(24)
	x.l = log.Open(disk(t, x.size), x.at, x.n, x.epoch)
	x.p = openPlain(disk(t, x.size), x.at, x.n, x.epoch)
	return x
}

func TestP501ByChance(t *testing.T) {
	for seed := range 400 {
		chance := rand.New(rand.NewSource(int64(seed)))
		x := newPair(t, chance)
		for k := range 80 {
			if wrong := x.step(chance); wrong != "" {
				t.Fatalf("seed %d, step %d: %s", seed, k, wrong)
			}
		}
	}
}

// grounds are disks on which a log of that epoch has no record yet.
func grounds(n, epoch int) map[string][]byte {
	var likely []byte
	for i := range n {
		likely = append(likely, head(epoch, 2+i%3, 0)...)
	}
	return map[string][]byte{
		"new":       make([]byte, n*api.Sector),
		"dirty":     bytes.Repeat(dirt(), n),
		"old heads": likely,
	}
}

// crash appends all of l to a log, on a disk that breaks behind so many writes,
// crashes it, and opens it anew. It answers what was OK, and what the crash left.
func crash(t *testing.T, d *sectors.Disk, n, more, mask int, l [][]byte) (ok, left [][]byte) {
	t.Helper()
	x := log.Open(d, 0, n, 3)
	ok = x.Records()
	d.Break(more)
	for _, b := range l {
		if x.Append(b) != api.OK {
			break
		}
		ok = append(ok, b)
	}
	keep := make([]bool, 6)
	for i := range keep {
		keep[i] = mask>>i&1 == 1
	}
	d.Crash(keep)
	return ok, log.Open(d, 0, n, 3).Records()
}

// survives checks that what a crash left is what was OK, and at most the next.
func survives(t *testing.T, what string, ok, left, l [][]byte) {
	t.Helper()
	if same(ok, left) {
		return
	}
	if len(left) == len(ok)+1 && len(left) <= len(l) && same(left, append(slices.Clone(ok), l[len(ok)])) {
		return
	}
	t.Errorf("%s: OK were %q, left are %q", what, ok, left)
}

// Every break, every keep, then a second run of it on what is left, and a
// crash again.
func TestP502Crashes(t *testing.T) {
	like := head(3, 2, 0)
	for i, l := range [][][]byte{
		{nil, nil, nil}, {text(1, 10), text(2, 70), nil, text(3, 64)}, {like, like, like}, {slices.Concat(like, like), nil, like}, {text(1, 200), text(2, 1)},
	} {
		const n = 9
		for ground, b := range grounds(n, 3) {
			for more := range 14 {
				for mask := range 32 {
					what := fmt.Sprintf("%d, %s, broken behind %d, mask %x", i, ground, more, mask)
					d := sectors.New(n)
					lay(t, d, 0, b)
					ok, left := crash(t, d, n, more, mask, l)
					survives(t, what, ok, left, l)
					ok, then := crash(t, d, n, more%5, mask, l[len(left):])
					if len(ok) < len(left) || !same(ok[:len(left)], left) {
						t.Errorf("%s: opened, then %q, were %q", what, ok, left)
					}
					survives(t, what+", again", ok, then, l)
				}
			}
		}
	}
}

// A record that is left behind a crash, and then others on top, of other
// lengths: what was being appended is seen whole or not at all.
func TestP502OtherLengthsOnTop(t *testing.T) {
	const n = 9
	for _, first := range lengths() {
		for _, second := range lengths() {
			for more := range 7 {
				for mask := range 32 {
					d := disk(t, n)
					a, b := text(1, first), text(2, second)
					ok, left := crash(t, d, n, more, mask, [][]byte{a})
					survives(t, "the first", ok, left, [][]byte{a})
					l := log.Open(d, 0, n, 3)
					want := l.Records()
					if l.Append(b) == api.OK {
						want = append(want, b)
					}
					d.Crash(nil)
					if got := log.Open(d, 0, n, 3).Records(); !same(got, want) {
						t.Errorf("%d and %d bytes, broken behind %d, mask %x: %q, want %q", first, second, more, mask, got, want)
					}
				}
			}
		}
	}
}

// Long runs of appends, breaks and crashes: nothing that was OK is lost, nothing
// comes that was not appended.
func TestP502ByChance(t *testing.T) {
	for seed := range 100 {
		chance := rand.New(rand.NewSource(int64(seed)))
		d := sectors.New(60)
		var had [][]byte
		for range 30 {
			next := text(chance.Intn(99), chance.Intn(100))
			ok, left := crash(t, d, 60, chance.Intn(6), chance.Intn(16), [][]byte{next})
			if !same(ok, had) && !same(ok, append(slices.Clone(had), next)) {
				t.Fatalf("seed %d: found %q, were %q", seed, ok, had)
			}
			if !same(left, ok) && !same(left, append(slices.Clone(ok), next)) {
				t.Fatalf("seed %d: left %q, OK were %q", seed, left, ok)
			}
			had = left
		}
	}
}

func TestP502Nil(t *testing.T) {
	for _, at := range []int{0, 1, -1, math.MinInt, math.MaxInt} {
		for _, n := range []int{0, 1, -1, math.MinInt, math.MaxInt} {
			nothing(t, "a nil disk", log.Open(nil, at, n, 1))
		}
	}
	nothing(t, "a nil Log", nil)
	nothing(t, "a Log that was not opened", &log.Log{})
	if l := log.Open(nil, 0, 9, 1); l == nil || l.Len() != 0 || len(l.Read(0)) != 0 || l.Write(0, zero()) || l.Writes() != 0 {
		t.Error("the disk of a log of a nil disk")
	}
}

// nothing checks that a log is of no disk.
func nothing(t *testing.T, what string, l *log.Log) {
	t.Helper()
	for range 2 {
		tells(t, what, l, 0)
		for _, b := range [][]byte{nil, {}, text(1, 1), text(1, 64), text(1, 100000)} {
			if err := l.Append(b); err != api.ErrDisk {
				t.Errorf("%s: Append of %d bytes: %d", what, len(b), err)
			}
		}
	}
}

// What is handed in stays as it is, its spare room too.
func TestP502AppendChangesNothing(t *testing.T) {
	for _, size := range lengths() {
		for _, more := range []int{-1, 0, 1, 2} {
			d := disk(t, 5)
			l := log.Open(d, 0, 5, 3)
			room := text(1, size+2*api.Sector)
			if more >= 0 {
				d.Break(more)
			}
			l.Append(room[:size])
			l.Records()
			if !bytes.Equal(room, text(1, size+2*api.Sector)) {
				t.Errorf("Append of %d bytes changes what was handed in", size)
			}
		}
	}
}

func TestP502AppendKeepsNothing(t *testing.T) {
	for _, size := range lengths() {
		const n = 12
		d := disk(t, n)
		l := log.Open(d, 0, n, 3)
		b := text(1, size)
		mustAppend(t, l, b)
		clear(b)
		mustAppend(t, l, b)
		copy(b, text(7, size))
		room := (n-1)*api.Sector - 2*len(record(3, 1, b))
		tells(t, "what was handed in changes", l, room, text(1, size), make([]byte, size))
		tells(t, "what was handed in changes, opened", log.Open(d, 0, n, 3), room, text(1, size), make([]byte, size))
	}
}

// An answer is new memory, each record of it too: of those that were found, and
// of those that were appended since.
func TestP502RecordsAreNewMemory(t *testing.T) {
	had := [][]byte{text(1, 10), text(2, 64), nil, text(3, 70), text(4, 1)}
	d := disk(t, 20)
	mustAppend(t, log.Open(d, 0, 20, 3), had[:3]...)
	l := log.Open(d, 0, 20, 3)
	mustAppend(t, l, had[3:]...)
	first, second, third := l.Records(), l.Records(), l.Records()
	for i := range first {
		clear(first[i])
		_ = append(first[i], bytes.Repeat([]byte{'X'}, 200)...)
		_ = append(second[i], bytes.Repeat([]byte{'Y'}, 200)...)
	}
	_ = append(second[:1], []byte("Z"), []byte("Z"))
	_ = append(first[:0], []byte("Z"))
	if !same(third, had) || !same(l.Records(), had) || !same(log.Open(d, 0, 20, 3).Records(), had) {
		t.Error("an answer is shared")
	}
	mustAppend(t, l, text(5, 5))
	if !same(third, had) {
		t.Error("an answer changes with the log")
	}
}

// What was told may be appended again, to the same log too.
func TestP502RecordsAreAppended(t *testing.T) {
	l := log.Open(disk(t, 30), 0, 30, 3)
	mustAppend(t, l, text(1, 10), text(2, 100))
	mustAppend(t, l, l.Records()...)
	mustAppend(t, l, l.Records()[3])
	if !same(l.Records(), [][]byte{text(1, 10), text(2, 100), text(1, 10), text(2, 100), text(2, 100)}) {
		t.Errorf("%q", l.Records())
	}
}

// A log that failed leaves others on other disks as they are.
func TestP502TwoLogs(t *testing.T) {
	a, b := log.Open(disk(t, 5), 0, 5, 3), log.Open(disk(t, 5), 0, 5, 3)
	mustAppend(t, a, text(1, 5))
	a.Break(0)
	if a.Append(nil) != api.ErrDisk {
		t.Error("a broken disk")
	}
	mustAppend(t, b, text(2, 5))
	tells(t, "the failed one", a, 2*api.Sector, text(1, 5))
	tells(t, "the other one", b, 2*api.Sector, text(2, 5))
}

// Many logs at once: each one is told what it was told alone.
func TestP502HangsOnWhatItWasTold(t *testing.T) {
	tell := func() string {
		chance := rand.New(rand.NewSource(6))
		x := newPair(t, chance)
		var l strings.Builder
		for range 200 {
			l.WriteString(x.step(chance))
			fmt.Fprintf(&l, "%q %d %q", x.l.Records(), x.l.Room(), all(x.l.Disk))
		}
		return l.String()
	}
	want := tell()
	got := make([]string, 16)
	var group sync.WaitGroup
	for i := range got {
		group.Add(1)
		go func() {
			defer group.Done()
			got[i] = tell()
		}()
	}
	group.Wait()
	for i := range got {
		if got[i] != want {
			t.Errorf("log %d is otherwise", i)
		}
	}
}
