package seal_test

import (
	"hash/crc32"
	"slices"
	"strings"
	"testing"

	"glacier/api"
	"glacier/seal"
)

// register is the checksum as the chapter tells it, bit by bit.
func register(s string) uint32 {
	r := ^uint32(0)
	for i := range len(s) {
		for bit := range 8 {
			out := r & 1
			r >>= 1
			if out^uint32(s[i])>>bit&1 == 1 {
				r ^= 0xedb88320
			}
		}
	}
	return ^r
}

// filler returns n bytes of many values.
func filler(n int) string {
	b := make([]byte, n)
	r := uint32(1)
	for i := range b {
		r = r*1664525 + 1013904223
		b[i] = byte(r >> 24)
	}
	return string(b)
}

// P2.1: the checksum is that of the chapter.
func TestSum(t *testing.T) {
	if x := seal.Sum("123456789"); x != 0xcbf43926 {
		t.Errorf("the chapter's example: %x", x)
	}
	if a, b := seal.Sum(), seal.Sum("", ""); a != 0 || b != 0 {
		t.Errorf("Sum of nothing: %x, %x", a, b)
	}
	for v := range 256 {
		s := string([]byte{byte(v)})
		if x := seal.Sum(s); x != register(s) || x != crc32.ChecksumIEEE([]byte(s)) {
			t.Errorf("Sum of %x: %x, want %x", s, x, register(s))
		}
	}
	all := filler(600)
	for n := range len(all) {
		s := all[:n]
		if x := seal.Sum(s); x != register(s) || x != crc32.ChecksumIEEE([]byte(s)) {
			t.Fatalf("Sum of %d bytes: %x, want %x", n, x, register(s))
		}
		if x := seal.Sum(s, "", all[n:]); x != seal.Sum(all) {
			t.Fatalf("Sum, divided at %d: %x, want %x", n, x, seal.Sum(all))
		}
	}
}

// head is the head of a frame whose contents would have n bytes, with the sum of s as its contents.
func head(n int, s string) string {
	size := string([]byte{byte(n >> 24), byte(n >> 16), byte(n >> 8), byte(n)})
	x := register(size + s)
	return size + string([]byte{byte(x >> 24), byte(x >> 16), byte(x >> 8), byte(x)})
}

// P2.1: a frame is the length, the checksum and the contents.
func TestFrame(t *testing.T) {
	for _, n := range []int{0, 1, 255, 256, 257, 65536, seal.MaxFrame} {
		s := filler(n)
		want := head(n, s) + s
		if seal.Frame(s) != want || seal.Frame(s[:n/3], "", s[n/3:]) != want {
			t.Errorf("Frame of %d bytes is wrong", n)
		}
	}
	if seal.Frame() != head(0, "") || seal.Frame("") != seal.Frame() || seal.Frame("", "") != seal.Frame() {
		t.Errorf("Frame of nothing: %x", seal.Frame())
	}
	if s := seal.Frame("a"); s[:4] != "\x00\x00\x00\x01" || len(s) != 9 || s[8:] != "a" {
		t.Errorf("the chapter's example: %x", s)
	}
	if seal.Head != 8 || seal.MaxFrame != 1<<20 {
		t.Error("a constant is wrong")
	}
}

// K3: the slice that is handed in, and its spare capacity, stay as they are.
func TestArgumentsStay(t *testing.T) {
	l := []string{"a", "b", "c"}
	seal.Sum(l[:2]...)
	seal.Frame(l[:2]...)
	if !slices.Equal(l, []string{"a", "b", "c"}) {
		t.Errorf("an argument was changed: %q", l)
	}
}

// P2.1: Open's results, and its errors in their order.
func TestOpen(t *testing.T) {
	const max = seal.MaxFrame
	abc := seal.Frame("abc")
	full := filler(max)
	wrong := seal.Frame("abd")[:8] + "abc"
	for _, c := range []struct {
		what, text, want string
		n                int
		err              api.Errno
	}{
		{"nothing", "", "", 0, api.ErrEnd},
		{"seven bytes", abc[:7], "", 0, api.ErrEnd},
		{"seven bytes of too much", head(max+1, "")[:7], "", 0, api.ErrEnd},
		{"no contents", seal.Frame(), "", 8, api.OK},
		{"no contents, wrong sum", "\x00\x00\x00\x00" + abc[4:8], "", 0, api.ErrSum},
		{"no contents, more behind", seal.Frame() + "x", "", 8, api.OK},
		{"head alone", abc[:8], "", 0, api.ErrEnd},
		{"a byte missing", abc[:10], "", 0, api.ErrEnd},
		{"a byte missing, wrong sum", wrong[:10], "", 0, api.ErrEnd},
		{"a frame", abc, "abc", 11, api.OK},
		{"a frame, more behind", abc + "\x00\x00\x00", "abc", 11, api.OK},
		{"wrong sum", wrong, "", 0, api.ErrSum},
		{"wrong sum, more behind", wrong + abc, "", 0, api.ErrSum},
		{"sum of the contents alone", "\x00\x00\x00\x09\xcb\xf4\x39\x26123456789", "", 0, api.ErrSum},
		{"the most bytes", seal.Frame(full), full, max + 8, api.OK},
		{"the most bytes, one missing", head(max, full) + full[1:], "", 0, api.ErrEnd},
		{"a byte too many", head(max+1, full+"x") + full + "x", "", 0, api.ErrBig},
		{"a byte too many, none there", head(max+1, ""), "", 0, api.ErrBig},
		{"far too many", "\xff\xff\xff\xff" + abc[4:], "", 0, api.ErrBig},
		{"2^31", "\x80\x00\x00\x00" + abc[4:], "", 0, api.ErrBig},
	} {
		if s, n, e := seal.Open(c.text); s != c.want || n != c.n || e != c.err {
			t.Errorf("Open of %s: %d bytes, %d, error %d, want %d, error %d", c.what, len(s), n, e, c.n, c.err)
		}
	}
}

// P2.1: Only opens one frame that nothing follows.
func TestOnly(t *testing.T) {
	abc := seal.Frame("abc")
	for _, c := range []struct {
		text, want string
		err        api.Errno
	}{
		{abc, "abc", api.OK},
		{seal.Frame(), "", api.OK},
		{"", "", api.ErrEnd},
		{abc[:10], "", api.ErrEnd},
		{abc + "x", "", api.ErrForm},
		{abc + abc, "", api.ErrForm},
		{seal.Frame() + "x", "", api.ErrForm},
		{abc[:10] + "d", "", api.ErrSum},
		{abc[:10] + "dx", "", api.ErrSum},
		{"\x00\x20\x00\x00" + abc[4:], "", api.ErrBig},
	} {
		if s, e := seal.Only(c.text); s != c.want || e != c.err {
			t.Errorf("Only of %x: %q, error %d, want %q, error %d", c.text, s, e, c.want, c.err)
		}
	}
}

// contents is what the frames of the tests below contain.
var contents = []string{"abc", "", "x", filler(40), "", "\x00\x00\x00\x00\x00\x00\x00\x00", "end"}

func framed(l []string) string {
	s := ""
	for _, c := range l {
		s += seal.Frame(c)
	}
	return s
}

func wantScan(t *testing.T, what, text string, want []string) {
	t.Helper()
	l, n := seal.Scan(text)
	if !slices.Equal(l, want) || n != len(framed(want)) {
		t.Fatalf("%s: Scan gives %q and %d, want %q", what, l, n, want)
	}
}

// P2.2: frames decode to their contents.
func TestFramesDecode(t *testing.T) {
	for n := range 300 {
		want := filler(n)
		text := seal.Frame(want)
		s, used, e := seal.Open(text)
		if s != want || used != len(text) || e != api.OK {
			t.Errorf("%d bytes: Open gives %x, %d, error %d", n, s, used, e)
		}
		if s, e := seal.Only(text); s != want || e != api.OK {
			t.Errorf("%d bytes: Only gives %x, error %d", n, s, e)
		}
	}
	full := []string{filler(seal.MaxFrame), "", "z"}
	wantScan(t, "the most bytes", framed(full), full)
	wantScan(t, "nothing", "", nil)
	wantScan(t, "no frame", "hello, here is no frame", nil)
	wantScan(t, "all", framed(contents), contents)
	wantScan(t, "all, more behind", framed(contents)+"\x00\x00\x00\x00\x00\x00\x00\x00\x00", contents)
	wantScan(t, "a broken one between", framed(contents)+"broken__"+framed(contents), contents)
}

// P2.2: of frames that are cut off anywhere Scan returns the complete ones.
func TestFramesCutOff(t *testing.T) {
	text := framed(contents)
	whole := 0
	for n := range len(text) + 1 {
		for whole < len(contents) && len(framed(contents[:whole+1])) <= n {
			whole++
		}
		wantScan(t, "cut off", text[:n], contents[:whole])
	}
	if whole != len(contents) {
		t.Errorf("%d frames were whole at the end", whole)
	}
}

// changed returns text with the bytes from at on xored with those of by.
func changed(text string, at int, by string) string {
	b := []byte(text)
	for i := range len(by) {
		b[at+i] ^= by[i]
	}
	return string(b)
}

// P2.3: if up to four bytes in a row of a sum, or of contents, are changed, Scan returns the frames before.
func TestFramesChanged(t *testing.T) {
	text := framed(contents)
	l := []string{"\x01", "\x80", "\xff", "\x01\x01", "\xff\xff\xff", "\x01\x00\x00\x80", "\xff\xff\xff\xff", "\xb8\x83\x20\xed", "\x20\x83\xb8\xed", "\xed\xb8\x83\x20"}
	for i := range 200 {
		l = append(l, strings.ReplaceAll(filler(4 * (i + 1))[4*i:], "\x00", "\x01"))
	}
	for i, c := range contents {
		begin := len(framed(contents[:i]))
		sum := begin + 4
		inside := begin + seal.Head
		for _, by := range l {
			for at := sum; at+len(by) <= inside; at++ {
				wantScan(t, "sum changed", changed(text, at, by), contents[:i])
			}
			for at := inside; at+len(by) <= inside+len(c); at++ {
				wantScan(t, "contents changed", changed(text, at, by), contents[:i])
			}
		}
	}
}
