package span_test

import (
	"bytes"
	"fmt"
	"math"
	"math/rand"
	"slices"
	"sync"
	"testing"

	"poste/api"
	"poste/sectors"
	"poste/span"
)

// lengths are those at the edges of a sector, and some between.
func lengths() []int {
	l := []int{1, 2, 31, 40}
	for k := 1; k <= 5; k++ {
		l = append(l, k*api.Sector-1, k*api.Sector, k*api.Sector+1)
	}
	return l
}

// wrongPlaces are none of a disk of n sectors.
func wrongPlaces(n int) []int {
	return []int{-1, -2, -api.Sector, math.MinInt, math.MinInt + 1, n, n + 1, api.MaxSectors, math.MaxInt - 1, math.MaxInt}
}

// text is n bytes, none of them 0, and no two sectors of it alike.
func text(n int) []byte {
	b := make([]byte, n)
	for i := range b {
		b[i] = byte(1 + (i+i/api.Sector*7)%255)
	}
	return b
}

// dirty is a disk of n sectors full of bytes 0xEE, sure: what is filled with
// bytes 0, and what is left as it was, both are seen on it.
func dirty(t *testing.T, n int) *sectors.Disk {
	t.Helper()
	d := sectors.New(n)
	for i := range n {
		if !d.Write(i, bytes.Repeat([]byte{0xEE}, api.Sector)) {
			t.Fatalf("Write of sector %d is not done", i)
		}
	}
	if !d.Sync() {
		t.Fatal("Sync: false")
	}
	return d
}

// all is what is on a disk, one sector behind the other.
func all(d *sectors.Disk) []byte {
	var b []byte
	for i := range d.Len() {
		b = append(b, d.Read(i)...)
	}
	return b
}

// laid is what all must tell of a dirty disk of n sectors with k sectors of b,
// filled up, from at on.
func laid(n, at, k int, b []byte) []byte {
	want := bytes.Repeat([]byte{0xEE}, n*api.Sector)
	for i := range k * api.Sector {
		want[at*api.Sector+i] = 0
		if i < len(b) {
			want[at*api.Sector+i] = b[i]
		}
	}
	return want
}

// plainNeed counts sectors one by one.
func plainNeed(n int) int {
	k := 0
	for ; n > 0; n -= api.Sector {
		k++
	}
	return k
}

func TestP401NeedExamples(t *testing.T) {
	for _, x := range []struct{ n, want int }{
		{65, 2}, {0, 0}, {1, 1}, {63, 1}, {64, 1}, {127, 2}, {128, 2}, {129, 3},
		{-1, 0}, {-64, 0}, {-65, 0}, {math.MinInt, 0}, {math.MinInt + 1, 0},
		{api.Sector * api.MaxSectors, api.MaxSectors}, {api.Sector*api.MaxSectors + 1, api.MaxSectors + 1},
		{math.MaxInt, math.MaxInt/64 + 1}, {math.MaxInt - 62, math.MaxInt/64 + 1}, {math.MaxInt - 63, math.MaxInt / 64},
	} {
		if got := span.Need(x.n); got != x.want {
			t.Errorf("Need(%d): %d, want %d", x.n, got, x.want)
		}
	}
}

func TestP401NeedOfAll(t *testing.T) {
	for n := -200; n < 3000; n++ {
		if got, want := span.Need(n), plainNeed(n); got != want {
			t.Errorf("Need(%d): %d, want %d", n, got, want)
		}
	}
}

// Every place at which it fits: there it is, filled up, and nothing else is
// touched; every other one: nothing is.
func TestP401PutEverywhere(t *testing.T) {
	const size = 6
	for _, n := range lengths() {
		for at := -2; at < size+3; at++ {
			d, b := dirty(t, size), text(n)
			k := plainNeed(n)
			fits := at >= 0 && at+k <= size
			if got := span.Put(d, at, b); got != fits {
				t.Errorf("Put of %d bytes at %d: %v", n, at, got)
			}
			if !fits {
				k = 0
			}
			if d.Writes() != size+k {
				t.Errorf("Put of %d bytes at %d: %d writes, want %d", n, at, d.Writes()-size, k)
			}
			if !bytes.Equal(all(d), laid(size, max(at, 0), k, b)) {
				t.Errorf("Put of %d bytes at %d: the disk is otherwise", n, at)
			}
		}
	}
}

func TestP401PutNowhere(t *testing.T) {
	for _, size := range []int{0, 1, 5} {
		for _, at := range wrongPlaces(size) {
			for _, n := range lengths() {
				d := dirty(t, size)
				if span.Put(d, at, text(n)) || d.Writes() != size || !bytes.Equal(all(d), laid(size, 0, 0, nil)) {
					t.Errorf("Put of %d bytes at %d of %d sectors", n, at, size)
				}
			}
		}
	}
}

// What is refused for its place has not used up a Break.
func TestP401PutNowhereDoesNotBreak(t *testing.T) {
	d := dirty(t, 3)
	d.Break(1)
	for _, at := range append(wrongPlaces(3), 1, 2) {
		if span.Put(d, at, text(3*api.Sector)) {
			t.Errorf("Put at %d", at)
		}
	}
	if !span.Put(d, 1, text(5)) || span.Put(d, 1, text(5)) {
		t.Error("a Break of 1 must let one write be done")
	}
}

func TestP401PutNothing(t *testing.T) {
	broken := dirty(t, 2)
	broken.Break(0)
	for what, d := range map[string]*sectors.Disk{"a disk": dirty(t, 2), "none": sectors.New(0), "nil": nil, "a broken one": broken} {
		had, writes := all(d), d.Writes()
		for _, at := range append(wrongPlaces(2), 0, 1) {
			for _, b := range [][]byte{nil, {}, text(9)[:0]} {
				if !span.Put(d, at, b) {
					t.Errorf("%s: Put of nothing at %d: false", what, at)
				}
			}
		}
		if d.Writes() != writes || !bytes.Equal(all(d), had) {
			t.Errorf("%s: Put of nothing has written", what)
		}
	}
}

// A disk that breaks on the way: those ahead stay, in rising order, no further
// one is tried.
func TestP401PutBreaks(t *testing.T) {
	const size = 7
	for n := 1; n <= 5; n++ {
		for more := -1; more <= n+1; more++ {
			d, b := dirty(t, size), text(n*api.Sector-10)
			d.Break(more)
			done := min(max(more, 0), n)
			if got := span.Put(d, 1, b); got != (done == n) {
				t.Errorf("Put of %d sectors, broken behind %d: %v", n, more, got)
			}
			if d.Writes() != size+done {
				t.Errorf("Put of %d sectors, broken behind %d: %d writes", n, more, d.Writes()-size)
			}
			if !bytes.Equal(all(d), laid(size, 1, done, b)) {
				t.Errorf("Put of %d sectors, broken behind %d: the disk is otherwise", n, more)
			}
		}
	}
}

// The writes are done in rising order, one a sector: so keep counts them; and
// none of them is sure.
func TestP401PutIsNotSure(t *testing.T) {
	const size, k = 6, 4
	b := text(k*api.Sector - 3)
	for mask := range 1 << k {
		d := dirty(t, size)
		if !span.Put(d, 1, b) {
			t.Fatal("Put")
		}
		keep := make([]bool, k)
		for i := range keep {
			keep[i] = mask>>i&1 == 1
		}
		d.Crash(keep)
		want, whole := laid(size, 0, 0, nil), laid(size, 1, k, b)
		for i := range k {
			if keep[i] {
				copy(want[(1+i)*api.Sector:(2+i)*api.Sector], whole[(1+i)*api.Sector:])
			}
		}
		if !bytes.Equal(all(d), want) {
			t.Errorf("keep %v: the disk is otherwise", keep)
		}
	}
}

func TestP401PutOverPut(t *testing.T) {
	d := sectors.New(3)
	if !span.Put(d, 0, text(3*api.Sector)) || !span.Put(d, 1, []byte("short")) {
		t.Fatal("Put")
	}
	want := text(3 * api.Sector)
	clear(want[api.Sector : 2*api.Sector])
	copy(want[api.Sector:], "short")
	if !bytes.Equal(all(d), want) {
		t.Error("the rest of the last sector must be bytes 0, the others as they were")
	}
}

// Bytes 0 are bytes as all others.
func TestP401PutBytesZero(t *testing.T) {
	for _, n := range lengths() {
		d := dirty(t, 6)
		if !span.Put(d, 0, make([]byte, n)) || !bytes.Equal(all(d), laid(6, 0, plainNeed(n), nil)) {
			t.Errorf("Put of %d bytes 0", n)
		}
	}
}

func TestP401PutAll(t *testing.T) {
	const most = api.Sector * api.MaxSectors
	for _, n := range []int{most, most - 1, most - api.Sector + 1} {
		d, b := sectors.New(api.MaxSectors), text(n)
		if span.Put(d, 1, b) || d.Writes() != 0 {
			t.Errorf("Put of %d bytes at 1", n)
		}
		if !span.Put(d, 0, b) || d.Writes() != api.MaxSectors || !bytes.Equal(span.Get(d, 0, n), b) {
			t.Errorf("Put of %d bytes at 0", n)
		}
	}
	d := sectors.New(api.MaxSectors)
	if span.Put(d, 0, text(most+1)) || d.Writes() != 0 {
		t.Error("Put of more than a disk has")
	}
}

// Every place and every length: a part of what is there, or nothing.
func TestP401GetEverywhere(t *testing.T) {
	const size = 5
	d := sectors.New(size)
	whole := text(size * api.Sector)
	if !span.Put(d, 0, whole) {
		t.Fatal("Put")
	}
	for at := -2; at < size+3; at++ {
		for n := -3; n <= (size+1)*api.Sector; n++ {
			var want []byte
			if n > 0 && at >= 0 && at*api.Sector+n <= len(whole) {
				want = whole[at*api.Sector : at*api.Sector+n]
			}
			if got := span.Get(d, at, n); !bytes.Equal(got, want) {
				t.Errorf("Get of %d bytes at %d: %d bytes, want %d", n, at, len(got), len(want))
			}
		}
	}
	if d.Writes() != size || !bytes.Equal(all(d), whole) {
		t.Error("Get has written")
	}
}

func TestP401GetNowhere(t *testing.T) {
	for _, size := range []int{0, 1, 5} {
		d := dirty(t, size)
		for _, at := range wrongPlaces(size) {
			for _, n := range append(lengths(), 0, -1, math.MinInt, math.MaxInt, api.Sector*api.MaxSectors) {
				if got := span.Get(d, at, n); len(got) != 0 {
					t.Errorf("Get of %d bytes at %d of %d sectors: %d bytes", n, at, size, len(got))
				}
			}
		}
	}
}

// n is cut to what a disk may have: one that has it all answers it all.
func TestP401GetIsCut(t *testing.T) {
	const most = api.Sector * api.MaxSectors
	d, b := sectors.New(api.MaxSectors), text(most)
	if !span.Put(d, 0, b) {
		t.Fatal("Put")
	}
	for _, n := range []int{most, most + 1, most + api.Sector, 1 << 40, math.MaxInt - 1, math.MaxInt} {
		if !bytes.Equal(span.Get(d, 0, n), b) {
			t.Errorf("Get of %d bytes at 0 is not all", n)
		}
		if len(span.Get(d, 1, n)) != 0 {
			t.Errorf("Get of %d bytes at 1: they are not all there", n)
		}
	}
	if !bytes.Equal(span.Get(d, 0, most-1), b[:most-1]) || !bytes.Equal(span.Get(d, 1, most-api.Sector), b[api.Sector:]) {
		t.Error("Get of a little less")
	}
	short := sectors.New(api.MaxSectors - 1)
	if len(span.Get(short, 0, math.MaxInt)) != 0 || len(span.Get(short, 0, most)) != 0 || len(span.Get(short, 0, most-api.Sector)) != most-api.Sector {
		t.Error("Get of a disk that has one sector less")
	}
}

// Get tells what was written last: sure or not, of a broken disk, too; and
// behind a crash what stayed.
func TestP401GetTellsWhatIsThere(t *testing.T) {
	d := dirty(t, 4)
	b := text(100)
	if !span.Put(d, 1, b) {
		t.Fatal("Put")
	}
	d.Break(0)
	if !bytes.Equal(span.Get(d, 1, 100), b) || !bytes.Equal(span.Get(d, 1, 128), append(text(100), make([]byte, 28)...)) {
		t.Error("Get of a broken disk, not sure")
	}
	d.Crash([]bool{true})
	if !bytes.Equal(span.Get(d, 1, 128), append(slices.Clone(b[:64]), bytes.Repeat([]byte{0xEE}, 64)...)) {
		t.Error("Get behind a crash")
	}
}

// pair is a disk and, beside it, its bytes as the document's words spell them.
type pair struct {
	d     *sectors.Disk
	bytes []byte
}

// step puts or gets by chance that is the same in each run, and answers what
// was told otherwise.
func (p *pair) step(chance *rand.Rand) string {
	size := p.d.Len()
	at, n := chance.Intn(size+3)-1, chance.Intn((size+2)*api.Sector)
	fits := at >= 0 && at+plainNeed(n) <= size
	if chance.Intn(2) == 0 {
		var want []byte
		if fits {
			want = p.bytes[at*api.Sector : at*api.Sector+n]
		}
		if !bytes.Equal(span.Get(p.d, at, n), want) {
			return fmt.Sprintf("Get of %d bytes at %d of %d sectors", n, at, size)
		}
		return ""
	}
	b := make([]byte, n)
	chance.Read(b)
	if span.Put(p.d, at, b) != (fits || n == 0) {
		return fmt.Sprintf("Put of %d bytes at %d of %d sectors", n, at, size)
	}
	if fits {
		clear(p.bytes[at*api.Sector : (at+plainNeed(n))*api.Sector])
		copy(p.bytes[at*api.Sector:], b)
	}
	if !bytes.Equal(all(p.d), p.bytes) {
		return fmt.Sprintf("behind Put of %d bytes at %d of %d sectors", n, at, size)
	}
	return ""
}

func TestP401ByChance(t *testing.T) {
	for seed := range 200 {
		chance := rand.New(rand.NewSource(int64(seed)))
		size := chance.Intn(9)
		p := pair{sectors.New(size), make([]byte, size*api.Sector)}
		for range 100 {
			if wrong := p.step(chance); wrong != "" {
				t.Fatalf("seed %d: %s", seed, wrong)
			}
		}
	}
}

// A nil disk is one of no sectors.
func TestP402NilDisk(t *testing.T) {
	for _, at := range append(wrongPlaces(0), 0, 1) {
		for _, n := range append(lengths(), 0, -1, math.MinInt, math.MaxInt) {
			if len(span.Get(nil, at, n)) != 0 {
				t.Errorf("Get of %d bytes at %d of a nil disk", n, at)
			}
		}
		for _, n := range lengths() {
			if span.Put(nil, at, text(n)) {
				t.Errorf("Put of %d bytes at %d of a nil disk", n, at)
			}
		}
		if !span.Put(nil, at, nil) {
			t.Errorf("Put of nothing at %d of a nil disk", at)
		}
	}
}

// What is handed in stays as it is, its spare room too: where the last sector
// is filled up, and where Put is refused.
func TestP402PutChangesNothing(t *testing.T) {
	for _, n := range append(lengths(), 0) {
		for _, at := range []int{0, 1, 5, 6, -1} {
			room := text(n + 2*api.Sector)
			d := dirty(t, 6)
			span.Put(d, at, room[:n])
			if !bytes.Equal(room, text(n+2*api.Sector)) {
				t.Errorf("Put of %d bytes at %d changes what was handed in", n, at)
			}
		}
	}
}

func TestP402PutKeepsNothing(t *testing.T) {
	for _, n := range lengths() {
		d, b := dirty(t, 6), text(n)
		if !span.Put(d, 0, b) {
			t.Fatal("Put")
		}
		clear(b)
		if !bytes.Equal(span.Get(d, 0, n), text(n)) {
			t.Errorf("%d bytes: what was handed in changes, and the disk with it", n)
		}
		d.Crash([]bool{true, true, true, true, true, true})
		if !bytes.Equal(all(d), laid(6, 0, plainNeed(n), text(n))) {
			t.Errorf("%d bytes: the disk is otherwise behind a crash", n)
		}
	}
}

func TestP402GetIsNewMemory(t *testing.T) {
	for _, n := range lengths() {
		d := dirty(t, 6)
		if !span.Put(d, 0, text(n)) {
			t.Fatal("Put")
		}
		first, second := span.Get(d, 0, n), span.Get(d, 0, n)
		clear(first)
		_ = append(first, make([]byte, 2*api.Sector)...)
		if !bytes.Equal(second, text(n)) || !bytes.Equal(all(d), laid(6, 0, plainNeed(n), text(n))) {
			t.Errorf("%d bytes: an answer is shared", n)
		}
		if !span.Put(d, 0, bytes.Repeat([]byte{'X'}, n)) || !bytes.Equal(second, text(n)) {
			t.Errorf("%d bytes: an answer changes with the disk", n)
		}
	}
}

// What was got may be put again, over itself, too.
func TestP402GetIsPut(t *testing.T) {
	d := sectors.New(6)
	b := text(3*api.Sector - 1)
	if !span.Put(d, 0, b) || !span.Put(d, 1, span.Get(d, 0, len(b))) || !span.Put(d, 3, span.Get(d, 1, len(b))) {
		t.Fatal("Put")
	}
	if !bytes.Equal(span.Get(d, 3, len(b)), b) || !bytes.Equal(span.Get(d, 0, api.Sector), b[:api.Sector]) {
		t.Error("what was got and put is otherwise")
	}
}

// Many disks at once: each one is told what it was told alone.
func TestP402HangsOnArguments(t *testing.T) {
	tell := func() []byte {
		chance := rand.New(rand.NewSource(4))
		p := pair{sectors.New(5), make([]byte, 5*api.Sector)}
		var l []byte
		for range 200 {
			l = append(l, p.step(chance)...)
			l = append(l, all(p.d)...)
		}
		return l
	}
	want := tell()
	got := make([][]byte, 16)
	var group sync.WaitGroup
	for i := range got {
		group.Add(1)
		go func() {
			defer group.Done()
			got[i] = tell()
		}()
	}
	group.Wait()
	for i := range got {
		if !bytes.Equal(got[i], want) {
			t.Errorf("disk %d is otherwise", i)
		}
	}
}
