package sectors_test

import (
	"bytes"
	"math"
	"math/rand"
	"slices"
	"sync"
	"testing"

	"poste/api"
	"poste/sectors"
)

// full is a sector that tells c; of 0: bytes 0.
func full(c int) []byte {
	b := make([]byte, api.Sector)
	for i := range b {
		b[i] = byte(c >> (i % 4 * 8))
	}
	return b
}

// zero is a sector that was never written.
func zero() []byte { return make([]byte, api.Sector) }

// disk is a new one of n sectors, whose sector i is full(i + 1), and sure.
func disk(t *testing.T, n int) *sectors.Disk {
	t.Helper()
	d := sectors.New(n)
	for i := range n {
		write(t, d, i, i+1)
	}
	mustSync(t, d)
	return d
}

// write writes full(c), which must be done.
func write(t *testing.T, d *sectors.Disk, i, c int) {
	t.Helper()
	if !d.Write(i, full(c)) {
		t.Fatalf("Write of sector %d is not done", i)
	}
}

// refused checks that a Write that could be done is not, and leaves no mark.
func refused(t *testing.T, what string, d *sectors.Disk) {
	t.Helper()
	had, n := d.Read(0), d.Writes()
	if d.Write(0, full(99)) {
		t.Errorf("%s: a Write is done", what)
	}
	if !bytes.Equal(d.Read(0), had) || d.Writes() != n {
		t.Errorf("%s: a Write that is refused is seen", what)
	}
}

func mustSync(t *testing.T, d *sectors.Disk) {
	t.Helper()
	if !d.Sync() {
		t.Fatal("Sync: false")
	}
}

// has checks what is in the sectors from 0 on: full of each number, 0 for bytes 0.
func has(t *testing.T, what string, d *sectors.Disk, l ...int) {
	t.Helper()
	for i, c := range l {
		if got := d.Read(i); !bytes.Equal(got, full(c)) {
			t.Errorf("%s: sector %d is %v.., want full(%d)", what, i, got[:min(2, len(got))], c)
		}
	}
}

// plain is a disk as the document's words spell it: it goes over all that it
// was told, each time anew.
type plain struct {
	n      int
	sure   map[int][]byte
	unsure []plainWrite
	writes int
	more   int // till it breaks; below 0: it won't
}

type plainWrite struct {
	at int
	b  []byte
}

func newPlain(n int) *plain {
	return &plain{n: min(max(n, 0), api.MaxSectors), sure: map[int][]byte{}, more: -1}
}

func (p *plain) Len() int { return p.n }

func (p *plain) Read(i int) []byte {
	if i < 0 || i >= p.n {
		return nil
	}
	for _, w := range slices.Backward(p.unsure) {
		if w.at == i {
			return w.b
		}
	}
	if b, ok := p.sure[i]; ok {
		return b
	}
	return zero()
}

func (p *plain) Write(i int, b []byte) bool {
	if i < 0 || i >= p.n || len(b) != api.Sector || p.more == 0 {
		return false
	}
	p.unsure = append(p.unsure, plainWrite{i, slices.Clone(b)})
	p.writes++
	if p.more > 0 {
		p.more--
	}
	return true
}

func (p *plain) Sync() bool {
	if p.more == 0 {
		return false
	}
	for _, w := range p.unsure {
		p.sure[w.at] = w.b
	}
	p.unsure = nil
	return true
}

func (p *plain) Crash(keep []bool) {
	for i, w := range p.unsure {
		if i < len(keep) && keep[i] {
			p.sure[w.at] = w.b
		}
	}
	p.unsure = nil
	p.more = -1
}

func (p *plain) Break(n int) {
	if p.more != 0 {
		p.more = max(n, 0)
	}
}

func (p *plain) Writes() int { return p.writes }

// alike checks all that can be read of a disk.
func alike(t *testing.T, what string, d *sectors.Disk, p *plain) {
	t.Helper()
	if d.Len() != p.Len() || d.Writes() != p.Writes() {
		t.Fatalf("%s: Len %d, Writes %d, want %d, %d", what, d.Len(), d.Writes(), p.Len(), p.Writes())
	}
	for i := -1; i <= p.n; i++ {
		if !bytes.Equal(d.Read(i), p.Read(i)) {
			t.Fatalf("%s: sector %d is otherwise", what, i)
		}
	}
}

func TestP301Len(t *testing.T) {
	for _, x := range []struct{ n, want int }{
		{3, 3}, {0, 0}, {1, 1}, {-1, 0}, {math.MinInt, 0},
		{api.MaxSectors - 1, api.MaxSectors - 1}, {api.MaxSectors, api.MaxSectors},
		{api.MaxSectors + 1, api.MaxSectors}, {1 << 31, api.MaxSectors}, {math.MaxInt, api.MaxSectors},
	} {
		if got := sectors.New(x.n).Len(); got != x.want {
			t.Errorf("Len of New(%d): %d, want %d", x.n, got, x.want)
		}
	}
}

func TestP301NewIsZero(t *testing.T) {
	for _, n := range []int{0, 1, 3, api.MaxSectors, api.MaxSectors + 7} {
		d := sectors.New(n)
		for i := range d.Len() {
			if !bytes.Equal(d.Read(i), zero()) {
				t.Fatalf("sector %d of New(%d): %v", i, n, d.Read(i))
			}
		}
		if d.Writes() != 0 {
			t.Errorf("Writes of New(%d): %d", n, d.Writes())
		}
	}
}

func TestP301ReadOfNone(t *testing.T) {
	for _, n := range []int{0, 1, 3, api.MaxSectors} {
		d := disk(t, n)
		for _, i := range []int{-1, n, n + 1, -n - 1, math.MinInt, math.MaxInt} {
			if b := d.Read(i); len(b) != 0 {
				t.Errorf("Read(%d) of %d sectors: %v", i, n, b)
			}
		}
	}
}

func TestP301WriteIsThere(t *testing.T) {
	d := sectors.New(3)
	write(t, d, 1, 5)
	has(t, "one", d, 0, 5, 0)
	write(t, d, 0, 6)
	write(t, d, 2, 7)
	has(t, "all", d, 6, 5, 7)
	write(t, d, 1, 8)
	write(t, d, 1, 9)
	has(t, "over another", d, 6, 9, 7)
	if d.Writes() != 5 {
		t.Errorf("Writes: %d", d.Writes())
	}
	mustSync(t, d)
	has(t, "sure", d, 6, 9, 7)
	write(t, d, 1, 0)
	has(t, "bytes 0 over others", d, 6, 0, 7)
}

func TestP301FirstAndLastSector(t *testing.T) {
	d := sectors.New(api.MaxSectors + 1)
	last := api.MaxSectors - 1
	write(t, d, 0, 1)
	write(t, d, last, 2)
	if !bytes.Equal(d.Read(0), full(1)) || !bytes.Equal(d.Read(last), full(2)) || !bytes.Equal(d.Read(last-1), zero()) {
		t.Error("the ends are otherwise")
	}
	d.Crash([]bool{false, true})
	if !bytes.Equal(d.Read(0), zero()) || !bytes.Equal(d.Read(last), full(2)) {
		t.Error("behind a crash the ends are otherwise")
	}
}

// wrongWrites are Writes that a disk of n sectors must refuse.
func wrongWrites(n int) []plainWrite {
	l := []plainWrite{{-1, full(9)}, {n, full(9)}, {n + 1, full(9)}, {math.MinInt, full(9)}, {math.MaxInt, full(9)}, {-1, nil}}
	for _, size := range []int{0, 1, api.Sector - 1, api.Sector + 1, 2 * api.Sector} {
		l = append(l, plainWrite{0, bytes.Repeat([]byte{9}, size)}, plainWrite{n, bytes.Repeat([]byte{9}, size)})
	}
	return append(l, plainWrite{0, nil}, plainWrite{0, full(9)[:10]})
}

func TestP301WrongWrites(t *testing.T) {
	for _, n := range []int{1, 3} {
		for k, w := range wrongWrites(n) {
			d := disk(t, n)
			write(t, d, 0, 7)
			if d.Write(w.at, w.b) {
				t.Errorf("wrong Write %d of %d sectors: true", k, n)
			}
			if d.Writes() != n+1 {
				t.Errorf("wrong Write %d counts", k)
			}
			has(t, "a wrong Write", d, 7)
			write(t, d, 0, 8)
			d.Crash([]bool{false, true})
			has(t, "a wrong Write must not stand among the unsure", d, 8)
		}
	}
	if sectors.New(0).Write(0, full(1)) {
		t.Error("a Write of a disk of no sectors")
	}
}

// A Break of 2 must let two right writes be done, whatever wrong ones come
// between.
func TestP301WrongWritesDoNotBreak(t *testing.T) {
	d := disk(t, 3)
	d.Break(2)
	for k, w := range wrongWrites(3) {
		if d.Write(w.at, w.b) {
			t.Errorf("wrong Write %d: true", k)
		}
	}
	write(t, d, 0, 7)
	for _, w := range wrongWrites(3) {
		d.Write(w.at, w.b)
	}
	mustSync(t, d)
	write(t, d, 1, 8)
	refused(t, "behind two", d)
	has(t, "behind two", d, 7, 8, 3)
}

func TestP301NotSureIsForgotten(t *testing.T) {
	for _, keep := range [][]bool{nil, {}, {false}, {false, false, false}, {false, false, false, false, true, true}} {
		d := sectors.New(2)
		write(t, d, 0, 5)
		write(t, d, 1, 6)
		write(t, d, 0, 7)
		d.Crash(keep)
		has(t, "never sure", d, 0, 0)
		d = disk(t, 2)
		write(t, d, 0, 5)
		write(t, d, 1, 6)
		write(t, d, 0, 7)
		d.Crash(keep)
		has(t, "sure before", d, 1, 2)
	}
}

func TestP301SyncIsSure(t *testing.T) {
	d := disk(t, 3)
	write(t, d, 1, 5)
	write(t, d, 1, 6)
	mustSync(t, d)
	mustSync(t, d)
	write(t, d, 2, 7)
	d.Crash(nil)
	has(t, "a crash", d, 1, 6, 3)
	d.Crash([]bool{true, true, true})
	has(t, "a second crash", d, 1, 6, 3)
}

// What was made sure does not count among those that keep tells.
func TestP301KeepCountsFromTheLastSync(t *testing.T) {
	d := disk(t, 3)
	write(t, d, 0, 5)
	write(t, d, 1, 6)
	mustSync(t, d)
	write(t, d, 0, 7)
	write(t, d, 1, 8)
	d.Crash([]bool{false, true})
	has(t, "behind Sync", d, 5, 8, 3)
	write(t, d, 0, 9)
	write(t, d, 2, 10)
	d.Crash([]bool{true})
	has(t, "behind a crash", d, 9, 8, 3)
}

// All rows of up to four writes on two sectors, sure or not ahead, and all that
// keep may tell of them, also of fewer and of more than there are.
func TestP301CrashExhaustively(t *testing.T) {
	for n := range 5 {
		for row := range 1 << n {
			for length := range n + 2 {
				for mask := range 1 << length {
					crashOnce(t, n, row, length, mask)
				}
			}
		}
	}
}

// crashOnce writes n times, to the sectors that the bits of row tell, and
// crashes with the bits of mask.
func crashOnce(t *testing.T, n, row, length, mask int) {
	t.Helper()
	d := disk(t, 2)
	want := []int{1, 2}
	keep := make([]bool, length)
	for i := range keep {
		keep[i] = mask>>i&1 == 1
	}
	for i := range n {
		at := row >> i & 1
		write(t, d, at, 10+i)
		if i < length && keep[i] {
			want[at] = 10 + i
		}
	}
	d.Crash(keep)
	has(t, "a crash", d, want...)
	d.Crash([]bool{true, true, true, true})
	has(t, "what is there is sure", d, want...)
	if d.Writes() != 2+n {
		t.Errorf("Writes: %d, want %d", d.Writes(), 2+n)
	}
}

// A write of what was there already is a write as each other one.
func TestP301SameBytesTwice(t *testing.T) {
	d := disk(t, 1)
	write(t, d, 0, 1)
	write(t, d, 0, 5)
	write(t, d, 0, 1)
	write(t, d, 0, 5)
	d.Crash([]bool{false, true, true, false})
	has(t, "the third one stays", d, 1)
	write(t, d, 0, 5)
	write(t, d, 0, 5)
	d.Crash([]bool{false, true})
	has(t, "the second one stays", d, 5)
}

func TestP301BreakNow(t *testing.T) {
	for _, n := range []int{0, -1, math.MinInt} {
		d := disk(t, 2)
		write(t, d, 0, 5)
		d.Break(n)
		refused(t, "broken", d)
		if d.Sync() || d.Sync() {
			t.Errorf("Break(%d): Sync of a broken one", n)
		}
		if d.Len() != 2 {
			t.Errorf("Break(%d): Len %d", n, d.Len())
		}
		has(t, "a broken one is read", d, 5, 2)
		d.Crash(nil)
		has(t, "Sync of a broken one makes nothing sure", d, 1, 2)
	}
}

func TestP301BreakLater(t *testing.T) {
	for n := 1; n < 6; n++ {
		d := disk(t, 2)
		d.Break(n)
		for k := range n {
			mustSync(t, d)
			write(t, d, 0, 20+k)
		}
		if d.Sync() {
			t.Errorf("Break(%d): Sync behind the last write", n)
		}
		refused(t, "behind the last write", d)
		has(t, "behind the last write", d, 19+n, 2)
		if d.Writes() != 2+n {
			t.Errorf("Break(%d): Writes %d", n, d.Writes())
		}
		d.Crash(nil)
		has(t, "the last one is not sure", d, []int{1, 20, 21, 22, 23}[n-1], 2)
	}
}

func TestP301BreakKeepsTheLastWrite(t *testing.T) {
	d := disk(t, 2)
	d.Break(2)
	write(t, d, 0, 5)
	write(t, d, 1, 6)
	refused(t, "broken", d)
	d.Crash([]bool{false, true, true})
	has(t, "the last one stays", d, 1, 6)
}

func TestP301BrokenStaysSo(t *testing.T) {
	d := disk(t, 2)
	d.Break(0)
	for _, n := range []int{1, 5, math.MaxInt, 0, -3} {
		d.Break(n)
		refused(t, "a Break of a broken one", d)
		if d.Sync() {
			t.Errorf("Sync behind Break(%d) of a broken one", n)
		}
	}
	d = disk(t, 2)
	d.Break(1)
	write(t, d, 0, 5)
	d.Break(7)
	refused(t, "a Break of one that came to it", d)
	if d.Sync() {
		t.Error("Sync of one that came to it")
	}
}

func TestP301BreakInThePlaceOfAnother(t *testing.T) {
	for _, x := range []struct{ first, done, second, more int }{
		{1, 0, 3, 3}, {3, 0, 1, 1}, {3, 2, 3, 3}, {5, 2, 0, 0}, {5, 4, -1, 0}, {2, 1, 2, 2}, {math.MaxInt, 3, 2, 2},
	} {
		d := disk(t, 2)
		d.Break(x.first)
		for range x.done {
			write(t, d, 0, 5)
		}
		d.Break(x.second)
		for range x.more {
			mustSync(t, d)
			write(t, d, 1, 6)
		}
		refused(t, "the second Break", d)
		if d.Sync() {
			t.Errorf("%+v: Sync", x)
		}
	}
}

func TestP301BreakFarAway(t *testing.T) {
	d := disk(t, 1)
	d.Break(math.MaxInt)
	for k := range 1000 {
		write(t, d, 0, k)
		mustSync(t, d)
	}
}

func TestP301CrashTakesBreakAway(t *testing.T) {
	for _, n := range []int{-1, 0, 1, 2, 3} {
		d := disk(t, 2)
		d.Break(n)
		for range 2 {
			d.Write(0, full(5))
		}
		d.Crash(nil)
		for k := range 10 {
			write(t, d, 1, 30+k)
			mustSync(t, d)
		}
		d.Break(1)
		write(t, d, 0, 7)
		refused(t, "a Break behind a crash", d)
	}
}

func TestP301Writes(t *testing.T) {
	d := sectors.New(2)
	for k := range 10 {
		write(t, d, k%2, k)
		if k%3 == 0 {
			mustSync(t, d)
		}
		if k%4 == 0 {
			d.Crash([]bool{k%8 == 0})
		}
		d.Read(0)
		d.Write(2, full(k))
		d.Write(0, full(k)[1:])
		if d.Writes() != k+1 {
			t.Fatalf("Writes: %d, want %d", d.Writes(), k+1)
		}
	}
}

// step tells both disks one thing, chosen by chance that is the same in each
// run, and answers whether they said the same of it.
func step(chance *rand.Rand, d *sectors.Disk, p *plain) bool {
	switch at := chance.Intn(p.n+2) - 1; chance.Intn(10) {
	default:
		size := api.Sector
		if chance.Intn(10) == 0 {
			size += chance.Intn(3) - 1
		}
		b := make([]byte, size)
		chance.Read(b)
		return d.Write(at, b) == p.Write(at, b)
	case 0, 1:
		return d.Sync() == p.Sync()
	case 2:
		keep := make([]bool, chance.Intn(len(p.unsure)+3))
		for i := range keep {
			keep[i] = chance.Intn(2) == 1
		}
		d.Crash(keep)
		p.Crash(keep)
	case 3:
		n := chance.Intn(8) - 1
		d.Break(n)
		p.Break(n)
	}
	return true
}

func TestP301ByChance(t *testing.T) {
	for seed := range 300 {
		chance := rand.New(rand.NewSource(int64(seed)))
		n := chance.Intn(6)
		d, p := sectors.New(n), newPlain(n)
		for k := range 200 {
			if !step(chance, d, p) {
				t.Fatalf("seed %d, step %d: it answers otherwise", seed, k)
			}
			alike(t, "by chance", d, p)
		}
	}
}

func TestP301ManyUnsure(t *testing.T) {
	const many = 200000
	d := sectors.New(api.MaxSectors)
	keep := make([]bool, many)
	want := make([]int, api.MaxSectors)
	for k := range many {
		at := k * 7919 % api.MaxSectors
		write(t, d, at, k)
		if k%3 == 0 {
			keep[k] = true
			want[at] = k
		}
	}
	d.Crash(keep)
	has(t, "many", d, want...)
}

func TestP302NilDisk(t *testing.T) {
	var d *sectors.Disk
	for range 2 {
		if d.Len() != 0 || d.Writes() != 0 {
			t.Errorf("Len %d, Writes %d", d.Len(), d.Writes())
		}
		for _, i := range []int{-1, 0, 1, math.MaxInt, math.MinInt} {
			if len(d.Read(i)) != 0 || d.Write(i, full(1)) || d.Write(i, nil) {
				t.Errorf("a nil disk has a sector %d", i)
			}
		}
		if !d.Sync() {
			t.Error("Sync: a disk of no sectors says true")
		}
		d.Crash(nil)
		d.Crash([]bool{true})
		d.Break(3)
		d.Break(0)
		d.Break(-1)
	}
}

// A disk of no sectors has no writes, but may be broken as each other one.
func TestP302NoSectors(t *testing.T) {
	d := sectors.New(0)
	mustSync(t, d)
	d.Break(1)
	mustSync(t, d)
	if d.Write(0, full(1)) {
		t.Error("a Write")
	}
	mustSync(t, d)
	d.Break(0)
	if d.Sync() {
		t.Error("Sync of a broken one")
	}
	d.Crash([]bool{true})
	mustSync(t, d)
}

func TestP302TwoDisks(t *testing.T) {
	a, b := disk(t, 3), disk(t, 3)
	write(t, a, 0, 7)
	write(t, b, 1, 8)
	a.Break(0)
	has(t, "the broken one", a, 7, 2, 3)
	has(t, "the other one", b, 1, 8, 3)
	mustSync(t, b)
	a.Crash(nil)
	b.Crash(nil)
	has(t, "the crashed one", a, 1, 2, 3)
	has(t, "the sure one", b, 1, 8, 3)
	if a.Writes() != 4 || b.Writes() != 4 {
		t.Errorf("Writes: %d, %d", a.Writes(), b.Writes())
	}
	write(t, b, 2, 9)
	write(t, b, 2, 9)
	if a.Writes() != 4 || b.Writes() != 6 {
		t.Errorf("Writes: %d, %d", a.Writes(), b.Writes())
	}
}

func TestP302WrittenIsNotKept(t *testing.T) {
	room := append(full(5), "spare"...)
	d := disk(t, 2)
	if !d.Write(0, room[:api.Sector]) {
		t.Fatal("Write")
	}
	if !bytes.Equal(room, append(full(5), "spare"...)) {
		t.Fatal("Write changes what was handed in")
	}
	for i := range room {
		room[i] = 'X'
	}
	has(t, "what was handed in changes", d, 5)
	write(t, d, 0, 6)
	write(t, d, 1, 7)
	d.Crash([]bool{true})
	has(t, "behind a crash", d, 5, 2)
	if string(room) != string(bytes.Repeat([]byte{'X'}, len(room))) {
		t.Error("what was handed in is changed later")
	}
}

func TestP302KeepIsNotChanged(t *testing.T) {
	room := []bool{true, false, true, false, true}
	was := slices.Clone(room)
	d := disk(t, 2)
	for range 2 {
		for i := range 4 {
			write(t, d, i%2, 10+i)
		}
		d.Crash(room[:3])
		if !slices.Equal(room, was) {
			t.Fatalf("keep is now %v", room)
		}
		has(t, "the third one stays", d, 12)
	}
	write(t, d, 0, 20)
	d.Crash(nil)
	has(t, "an earlier keep is not kept", d, 12)
}

func TestP302ReadIsNewMemory(t *testing.T) {
	for i, c := range []int{1, 7} {
		d := disk(t, 2)
		write(t, d, 1, 7)
		first, second := d.Read(i), d.Read(i)
		for k := range first {
			first[k] = 'X'
		}
		_ = append(first, bytes.Repeat([]byte{'X'}, 2*api.Sector)...)
		has(t, "an answer is changed", d, 1, 7)
		write(t, d, i, 9)
		d.Crash([]bool{true})
		has(t, "behind a crash", d, 1, 7)
		if !bytes.Equal(second, full(c)) {
			t.Error("an answer changes with the other one, or with the disk")
		}
	}
}

// An answer may be written to another disk, or to the same one.
func TestP302ReadIsWritten(t *testing.T) {
	a, b := disk(t, 3), sectors.New(3)
	for i := range 3 {
		if !b.Write(2-i, a.Read(i)) || !a.Write(i, a.Read(0)) {
			t.Fatal("Write")
		}
	}
	has(t, "the other one", b, 3, 2, 1)
	has(t, "the same one", a, 1, 1, 1)
	a.Crash(nil)
	has(t, "undone", a, 1, 2, 3)
}

func TestP302HangsOnWhatItWasTold(t *testing.T) {
	tell := func() [][]byte {
		chance := rand.New(rand.NewSource(7))
		d, p := sectors.New(5), newPlain(5)
		var l [][]byte
		for range 300 {
			step(chance, d, p)
			for i := range d.Len() {
				l = append(l, d.Read(i))
			}
		}
		return l
	}
	want := tell()
	got := make([][][]byte, 16)
	var group sync.WaitGroup
	for i := range got {
		group.Add(1)
		go func() {
			defer group.Done()
			got[i] = tell()
		}()
	}
	group.Wait()
	for i := range got {
		if !slices.EqualFunc(got[i], want, bytes.Equal) {
			t.Errorf("disk %d is otherwise", i)
		}
	}
}
