package bytes_test

import (
	"encoding/binary"
	"math"
	"math/rand"
	"strings"
	"sync"
	"testing"
	"unsafe"

	"poste/bytes"
)

const maxText = 65535

// edgeInts are numbers at the edges of a byte, of four and of eight.
func edgeInts() []int {
	l := []int{math.MinInt, math.MinInt + 1, math.MaxInt - 1, math.MaxInt, 0x0123456789abcdef, -0x0123456789abcdef}
	for shift := range 63 {
		l = append(l, 1<<shift-1, 1<<shift, -1<<shift, -1<<shift-1)
	}
	return l
}

// edgeTexts are texts of any bytes, and of lengths at the edges of their head.
func edgeTexts() []string {
	l := []string{"", "a", "text", "\x00", "\x00\x00\x00", "\xff", "\xff\xfe\x80", "\u00e9\U00010000", "\x01\x00a"}
	for _, n := range []int{2, 255, 256, 257, 32767, 32768, maxText - 1, maxText} {
		l = append(l, strings.Repeat("t", n-1)+"\xfe")
	}
	return l
}

// plainText is a text as the document spells it.
func plainText(s string) string {
	return string([]byte{byte(len(s) % 256), byte(len(s) / 256)}) + s
}

// read answers what the three reads say of a reader, each one of a reader of its own.
func read(b []byte) (n int, s string, ok bool) {
	return bytes.NewReader(b).Int(), bytes.NewReader(b).Text(), bytes.NewReader(b).Flag()
}

// failedStays checks that a reader that has failed reads nothing more.
func failedStays(t *testing.T, what string, r *bytes.Reader) {
	t.Helper()
	for range 2 {
		if r.Done() {
			t.Errorf("%s: Done, though it has failed", what)
		}
		if n := r.Int(); n != 0 {
			t.Errorf("%s: Int %d", what, n)
		}
		if s := r.Text(); s != "" {
			t.Errorf("%s: Text %q", what, s)
		}
		if r.Flag() {
			t.Errorf("%s: Flag true", what)
		}
	}
}

func TestP201WriterOfNothing(t *testing.T) {
	var w bytes.Writer
	if len(w.Bytes()) != 0 || len(new(bytes.Writer).Bytes()) != 0 {
		t.Error("a new Writer has bytes")
	}
}

func TestP201WrittenBytes(t *testing.T) {
	for _, x := range []struct {
		what  string
		write func(w *bytes.Writer)
		want  string
	}{
		{"Int 0", func(w *bytes.Writer) { w.Int(0) }, "\x00\x00\x00\x00\x00\x00\x00\x00"},
		{"Int 1", func(w *bytes.Writer) { w.Int(1) }, "\x01\x00\x00\x00\x00\x00\x00\x00"},
		{"Int 258", func(w *bytes.Writer) { w.Int(258) }, "\x02\x01\x00\x00\x00\x00\x00\x00"},
		{"Int -1", func(w *bytes.Writer) { w.Int(-1) }, "\xff\xff\xff\xff\xff\xff\xff\xff"},
		{"Int -2", func(w *bytes.Writer) { w.Int(-2) }, "\xfe\xff\xff\xff\xff\xff\xff\xff"},
		{"Int rising", func(w *bytes.Writer) { w.Int(0x0807060504030201) }, "\x01\x02\x03\x04\x05\x06\x07\x08"},
		{"Int least", func(w *bytes.Writer) { w.Int(math.MinInt64) }, "\x00\x00\x00\x00\x00\x00\x00\x80"},
		{"Int greatest", func(w *bytes.Writer) { w.Int(math.MaxInt64) }, "\xff\xff\xff\xff\xff\xff\xff\x7f"},
		{"Text of nothing", func(w *bytes.Writer) { w.Text("") }, "\x00\x00"},
		{"Text", func(w *bytes.Writer) { w.Text("abc") }, "\x03\x00abc"},
		{"Text of bytes", func(w *bytes.Writer) { w.Text("\x00\xff") }, "\x02\x00\x00\xff"},
		{"Flag true", func(w *bytes.Writer) { w.Flag(true) }, "\x01"},
		{"Flag false", func(w *bytes.Writer) { w.Flag(false) }, "\x00"},
		{"one behind the other", func(w *bytes.Writer) {
			w.Text("a")
			w.Int(2)
			w.Flag(true)
			w.Flag(false)
			w.Text("")
			w.Text("bc")
		}, "\x01\x00a\x02\x00\x00\x00\x00\x00\x00\x00\x01\x00\x00\x00\x02\x00bc"},
	} {
		var w bytes.Writer
		x.write(&w)
		if got := string(w.Bytes()); got != x.want {
			t.Errorf("%s: %q, want %q", x.what, got, x.want)
		}
	}
}

func TestP201Ints(t *testing.T) {
	var all bytes.Writer
	for _, n := range edgeInts() {
		var w bytes.Writer
		w.Int(n)
		all.Int(n)
		want := binary.LittleEndian.AppendUint64(nil, uint64(n))
		if string(w.Bytes()) != string(want) {
			t.Errorf("Int %d: %x, want %x", n, w.Bytes(), want)
		}
		r := bytes.NewReader(want)
		if got := r.Int(); got != n || !r.Done() {
			t.Errorf("Int of %x: %d, want %d", want, got, n)
		}
	}
	r := bytes.NewReader(all.Bytes())
	for _, n := range edgeInts() {
		if got := r.Int(); got != n {
			t.Errorf("Int in a row: %d, want %d", got, n)
		}
	}
	if !r.Done() {
		t.Error("Ints in a row: not Done")
	}
}

func TestP201Texts(t *testing.T) {
	for _, s := range edgeTexts() {
		var w bytes.Writer
		w.Text(s)
		if string(w.Bytes()) != plainText(s) {
			t.Errorf("Text of %d bytes is written otherwise", len(s))
		}
		r := bytes.NewReader([]byte(plainText(s)))
		if got := r.Text(); got != s || !r.Done() {
			t.Errorf("Text of %d bytes: %d bytes are read", len(s), len(got))
		}
	}
}

func TestP201TextsThatAreTooLong(t *testing.T) {
	for _, more := range []int{1, 2, 255, 256, maxText, maxText + 1, maxText + 2, 1 << 20} {
		first := strings.Repeat("f", maxText-1) + "l"
		var w bytes.Writer
		w.Text(first + strings.Repeat("x", more))
		w.Flag(true)
		if string(w.Bytes()) != "\xff\xff"+first+"\x01" {
			t.Errorf("Text of %d bytes too many is written otherwise", more)
		}
		r := bytes.NewReader(w.Bytes())
		if r.Text() != first || !r.Flag() || !r.Done() {
			t.Errorf("Text of %d bytes too many is read otherwise", more)
		}
	}
}

func TestP201FlagsOfAllBytes(t *testing.T) {
	for b := range 256 {
		r := bytes.NewReader([]byte{byte(b), 1, 1, 1, 1, 1, 1, 1, 1})
		if r.Flag() != (b == 1) {
			t.Errorf("Flag of a byte %d", b)
		}
		if b > 1 {
			failedStays(t, "a Flag that is none, bytes behind", r)
			r = bytes.NewReader([]byte{byte(b)})
			r.Flag()
			failedStays(t, "a Flag that is none", r)
			continue
		}
		if r.Done() {
			t.Error("Done, though bytes are left")
		}
		if r.Int() != 0x0101010101010101 || !r.Done() {
			t.Error("what is behind a Flag is read otherwise")
		}
	}
}

func TestP201BytesThatAreMissing(t *testing.T) {
	ones := strings.Repeat("\x01", 8)
	for n := range len(ones) {
		r := bytes.NewReader([]byte(ones[:n]))
		if got := r.Int(); got != 0 {
			t.Errorf("Int of %d bytes: %d", n, got)
		}
		failedStays(t, "an Int that is cut", r)
	}
	for _, s := range []string{"a", "\x01\x01\x01\x01", strings.Repeat("t", 300), strings.Repeat("t", maxText)} {
		whole := plainText(s)
		for _, n := range []int{0, 1, 2, len(whole) - 2, len(whole) - 1} {
			r := bytes.NewReader([]byte(whole[:n]))
			if got := r.Text(); got != "" {
				t.Errorf("Text of %d of %d bytes: %q", n, len(whole), got)
			}
			failedStays(t, "a Text that is cut", r)
		}
	}
	r := bytes.NewReader([]byte{})
	if r.Flag() {
		t.Error("Flag of nothing")
	}
	failedStays(t, "a Flag that is missing", r)
}

// A read that fails must not leave the bytes that it did not get to the next one.
func TestP201BytesThatWereNotEnough(t *testing.T) {
	r := bytes.NewReader([]byte("\x01\x00a\x01\x01"))
	if n := r.Int(); n != 0 {
		t.Errorf("Int of 5 bytes: %d", n)
	}
	failedStays(t, "an Int that is cut, a Text is there", r)
	r = bytes.NewReader([]byte("\xff\xff" + strings.Repeat("\x01", 100)))
	if s := r.Text(); s != "" {
		t.Errorf("Text of 100 of %d bytes: %q", maxText, s)
	}
	failedStays(t, "a Text that is cut, an Int is there", r)
	r = bytes.NewReader([]byte("\x01\x01\x01"))
	if !r.Flag() {
		t.Error("Flag ahead of what is cut")
	}
	if n := r.Int(); n != 0 {
		t.Errorf("Int of 2 bytes: %d", n)
	}
	failedStays(t, "an Int that is cut, Flags are there", r)
}

func TestP201Done(t *testing.T) {
	for _, b := range [][]byte{nil, {}} {
		r := bytes.NewReader(b)
		if !r.Done() || !r.Done() {
			t.Error("a reader of nothing is not Done")
		}
		n, s, ok := read(b)
		if n != 0 || s != "" || ok {
			t.Errorf("reads of nothing: %d, %q, %t", n, s, ok)
		}
	}
	var w bytes.Writer
	w.Text("")
	w.Int(0)
	w.Flag(false)
	r := bytes.NewReader(w.Bytes())
	for i, next := range []func(){func() { r.Text() }, func() { r.Int() }, func() { r.Flag() }} {
		if r.Done() {
			t.Errorf("Done ahead of read %d", i)
		}
		next()
	}
	if !r.Done() || !r.Done() {
		t.Error("not Done behind the last read")
	}
	r.Flag()
	failedStays(t, "a read behind the last one", r)
}

// writes puts n things into w, chosen by chance that is the same in each run,
// and answers them in order.
func writes(w *bytes.Writer, chance *rand.Rand, n int) []any {
	var l []any
	for range n {
		switch chance.Intn(3) {
		case 0:
			v := int(chance.Uint64())
			w.Int(v)
			l = append(l, v)
		case 1:
			b := make([]byte, chance.Intn(300))
			chance.Read(b)
			w.Text(string(b))
			l = append(l, string(b))
		default:
			v := chance.Intn(2) == 1
			w.Flag(v)
			l = append(l, v)
		}
	}
	return l
}

// next reads a thing of that kind.
func next(r *bytes.Reader, like any) any {
	switch like.(type) {
	case int:
		return r.Int()
	case string:
		return r.Text()
	}
	return r.Flag()
}

func TestP201WrittenIsRead(t *testing.T) {
	chance := rand.New(rand.NewSource(1))
	for i := range 200 {
		var w bytes.Writer
		l := writes(&w, chance, i)
		r := bytes.NewReader(w.Bytes())
		for k, want := range l {
			if r.Done() {
				t.Fatalf("row %d is Done ahead of read %d", i, k)
			}
			if got := next(r, want); got != want {
				t.Fatalf("row %d, read %d: %v, want %v", i, k, got, want)
			}
		}
		if !r.Done() {
			t.Fatalf("row %d: not Done", i)
		}
	}
}

func TestP201CutAnywhere(t *testing.T) {
	var w bytes.Writer
	l := writes(&w, rand.New(rand.NewSource(2)), 12)
	b := w.Bytes()
	for n := range b {
		r := bytes.NewReader(b[:n])
		failed := false
		for k, want := range l {
			got := next(r, want)
			failed = failed || got != want
			if failed && got != 0 && got != "" && got != false {
				t.Fatalf("%d of %d bytes, read %d: %v", n, len(b), k, got)
			}
		}
		failedStays(t, "a row that is cut", r)
	}
}

func TestP201ManyWrites(t *testing.T) {
	const n = 1 << 18
	var w bytes.Writer
	for i := range n {
		w.Int(i)
		w.Flag(true)
	}
	b := w.Bytes()
	if len(b) != 9*n {
		t.Fatalf("%d bytes", len(b))
	}
	r := bytes.NewReader(b)
	for i := range n {
		if r.Int() != i || !r.Flag() {
			t.Fatalf("number %d is read otherwise", i)
		}
	}
	if !r.Done() {
		t.Error("not Done")
	}
}

// Failed is not Done's other side: a reader with bytes left is neither.
func TestP201Failed(t *testing.T) {
	r := bytes.NewReader([]byte("\x01\x00a\x01\x02"))
	for i, next := range []func(){func() {}, func() { r.Text() }, func() { r.Flag() }} {
		next()
		if r.Failed() || r.Done() {
			t.Errorf("behind read %d: Failed, or Done", i)
		}
	}
	for range 2 {
		r.Flag()
		if !r.Failed() {
			t.Error("behind a Flag that is none: not Failed")
		}
	}
	r = bytes.NewReader([]byte("\x00"))
	if r.Flag() || r.Failed() || !r.Done() {
		t.Error("behind all: Failed")
	}
	if r.Int(); !r.Failed() {
		t.Error("behind what is missing: not Failed")
	}
	var none *bytes.Reader
	if none.Int(); none.Failed() {
		t.Error("a nil reader is Failed")
	}
}

func TestP202NilReader(t *testing.T) {
	var r *bytes.Reader
	for range 2 {
		if r.Int() != 0 || r.Text() != "" || r.Flag() {
			t.Error("a nil Reader reads something")
		}
		if !r.Done() {
			t.Error("a nil Reader is not Done")
		}
	}
}

func TestP202TwoWriters(t *testing.T) {
	var a, b bytes.Writer
	a.Text("a")
	b.Text("b")
	a.Flag(true)
	b.Flag(false)
	if string(a.Bytes()) != "\x01\x00a\x01" || string(b.Bytes()) != "\x01\x00b\x00" {
		t.Errorf("%q, %q", a.Bytes(), b.Bytes())
	}
}

func TestP202CopiedWriters(t *testing.T) {
	for n := range 40 {
		var a bytes.Writer
		want := strings.Repeat("\x01", n)
		for range n {
			a.Flag(true)
		}
		b := a
		a.Text("a")
		b.Text("b")
		c := b
		b.Flag(true)
		c.Flag(false)
		if string(a.Bytes()) != want+"\x01\x00a" || string(b.Bytes()) != want+"\x01\x00b\x01" || string(c.Bytes()) != want+"\x01\x00b\x00" {
			t.Fatalf("%d ahead: %q, %q, %q", n, a.Bytes(), b.Bytes(), c.Bytes())
		}
	}
}

func TestP202TwoReaders(t *testing.T) {
	b := []byte("\x01\x00a\x01\x00b\x02")
	one, other := bytes.NewReader(b), bytes.NewReader(b)
	if one.Text() != "a" || one.Text() != "b" || one.Flag() {
		t.Error("the first one reads otherwise")
	}
	copied := *other
	if other.Text() != "a" || other.Text() != "b" || other.Done() {
		t.Error("the other one reads otherwise")
	}
	if copied.Text() != "a" || copied.Text() != "b" || copied.Done() {
		t.Error("its copy reads otherwise")
	}
	failedStays(t, "the first one", one)
}

func TestP202WrittenIsNotKept(t *testing.T) {
	room := []byte("key+spare")
	for _, n := range []int{0, 3} {
		var w bytes.Writer
		w.Text(unsafe.String(&room[0], n))
		if string(room) != "key+spare" {
			t.Fatalf("what was handed in is now %q", room)
		}
		copy(room, "XXXXXXXXX")
		if got := string(w.Bytes()); got != plainText("key"[:n]) {
			t.Errorf("Text keeps its argument's memory: %q", got)
		}
		copy(room, "key+spare")
	}
	long := []byte(strings.Repeat("k", maxText+1))
	var w bytes.Writer
	w.Text(unsafe.String(&long[0], len(long)))
	long[0] = 'X'
	if w.Bytes()[2] != 'k' {
		t.Error("Text keeps the memory of a long argument")
	}
}

func TestP202BytesAreNewMemory(t *testing.T) {
	var w bytes.Writer
	w.Text("ab")
	w.Int(7)
	first := w.Bytes()
	want := string(first)
	second := w.Bytes()
	for i := range second {
		second[i] = 'X'
	}
	_ = append(second, "XXXX"...)
	w.Flag(true)
	if string(first) != want {
		t.Errorf("one answer changes the other: %q", first)
	}
	_ = append(first, 'X')
	if got := string(w.Bytes()); got != want+"\x01" {
		t.Errorf("an answer changes the Writer: %q", got)
	}
}

func TestP202ReadIsNotKept(t *testing.T) {
	room := []byte("\x02\x00ab\x02\x00cd+spare")
	before := string(room)
	r := bytes.NewReader(room[:8])
	first := r.Text()
	if string(room) != before {
		t.Fatalf("what was handed in is now %q", room)
	}
	for i := range room {
		room[i] = 'X'
	}
	if second := r.Text(); first != "ab" || second != "cd" || !r.Done() {
		t.Errorf("a Reader keeps its argument: %q, %q", first, second)
	}
	if strings.Trim(string(room), "X") != "" {
		t.Errorf("a read changes what was handed in: %q", room)
	}
}

func TestP202TextsAreNewMemory(t *testing.T) {
	r := bytes.NewReader([]byte("\x02\x00ab\x02\x00ab"))
	copied := *r
	first, second, again := r.Text(), r.Text(), copied.Text()
	if first != "ab" || second != "ab" || again != "ab" {
		t.Fatalf("%q, %q, %q", first, second, again)
	}
	if unsafe.StringData(first) == unsafe.StringData(again) || unsafe.StringData(first) == unsafe.StringData(second) {
		t.Error("two answers share their memory")
	}
}

func TestP202HangsOnWhatItWasTold(t *testing.T) {
	var shared bytes.Writer
	shared.Text("shared")
	var plain bytes.Writer
	plain.Text("shared")
	want := writes(&plain, rand.New(rand.NewSource(3)), 50)
	var group sync.WaitGroup
	got := make([][]byte, 16)
	for i := range got {
		group.Add(1)
		go func() {
			defer group.Done()
			w := shared
			l := writes(&w, rand.New(rand.NewSource(3)), 50)
			r := bytes.NewReader(w.Bytes())
			if r.Text() != "shared" {
				t.Error("the beginning is read otherwise")
			}
			for k := range l {
				if next(r, l[k]) != want[k] {
					t.Errorf("read %d is otherwise", k)
				}
			}
			got[i] = w.Bytes()
		}()
	}
	group.Wait()
	for i := range got {
		if string(got[i]) != string(plain.Bytes()) {
			t.Errorf("goroutine %d wrote otherwise", i)
		}
	}
	if string(shared.Bytes()) != plainText("shared") {
		t.Error("copies changed the first Writer")
	}
}
