package wire_test

import (
	"fmt"
	"math"
	"slices"
	"strings"
	"testing"

	"glacier/api"
	"glacier/wire"
)

// numbers are values and their only encodings: both sides of each length, and the greatest one.
var numbers = []struct {
	v    uint64
	text string
}{
	{0, "\x00"},
	{1, "\x01"},
	{5, "\x05"},
	{127, "\x7f"},
	{128, "\x81\x00"},
	{300, "\x82\x2c"},
	{1<<14 - 1, "\xff\x7f"},
	{1 << 14, "\x81\x80\x00"},
	{1<<21 - 1, "\xff\xff\x7f"},
	{1 << 21, "\x81\x80\x80\x00"},
	{1 << 28, "\x81\x80\x80\x80\x00"},
	{1 << 35, "\x81\x80\x80\x80\x80\x00"},
	{1 << 42, "\x81\x80\x80\x80\x80\x80\x00"},
	{1 << 49, "\x81\x80\x80\x80\x80\x80\x80\x00"},
	{1<<56 - 1, "\xff\xff\xff\xff\xff\xff\xff\x7f"},
	{1 << 56, "\x81\x80\x80\x80\x80\x80\x80\x80\x00"},
	{1<<63 - 1, "\xff\xff\xff\xff\xff\xff\xff\xff\x7f"},
	{1 << 63, "\x81\x80\x80\x80\x80\x80\x80\x80\x80\x00"},
	{1<<63 + 300, "\x81\x80\x80\x80\x80\x80\x80\x80\x82\x2c"},
	{math.MaxUint64, "\x81\xff\xff\xff\xff\xff\xff\xff\xff\x7f"},
}

func enc() *wire.Enc {
	return &wire.Enc{}
}

func wantBytes(t *testing.T, what string, e *wire.Enc, want string) {
	t.Helper()
	if s := e.Bytes(); s != want {
		t.Errorf("%s: %x, want %x", what, s, want)
	}
}

// P1.1: numbers are encoded in groups of seven bits.
func TestNumbersAreEncoded(t *testing.T) {
	var all []uint64
	text := ""
	for _, n := range numbers {
		wantBytes(t, fmt.Sprint("U ", n.v), enc().U(n.v), n.text)
		all = append(all, n.v)
		text += n.text
		if n.v <= math.MaxInt {
			wantBytes(t, fmt.Sprint("I ", n.v), enc().I(int(n.v)), n.text)
		}
	}
	wantBytes(t, "U of many", enc().U(all...), text)
	wantBytes(t, "I below 0", enc().I(3, -1, -300, math.MinInt, 4), "\x03\x00\x00\x00\x04")
}

// P1.1: booleans, strings and lists are encoded as the chapter says.
func TestOthersAreEncoded(t *testing.T) {
	wantBytes(t, "B", enc().B(true, false, true), "\x01\x00\x01")
	wantBytes(t, "S", enc().S("ab", "", "\x00\xff"), "\x02ab\x00\x02\x00\xff")
	long := strings.Repeat("x", 300)
	wantBytes(t, "S of 127 bytes", enc().S(long[:127]), "\x7f"+long[:127])
	wantBytes(t, "S of 128 bytes", enc().S(long[:128]), "\x81\x00"+long[:128])
	wantBytes(t, "S of 300 bytes", enc().S(long), "\x82\x2c"+long)
	wantBytes(t, "List", enc().List(1, 2), "\x02\x01\x02")
	wantBytes(t, "List of none", enc().List(), "\x00")
	wantBytes(t, "List below 0", enc().List(-1, 200, math.MinInt), "\x03\x00\x81\x48\x00")
	wantBytes(t, "List of 128", enc().List(make([]int, 128)...), "\x81\x00"+strings.Repeat("\x00", 128))
}

// P1.1: an Enc begins empty, its calls return itself, and none of them loses what others appended.
func TestEncGathers(t *testing.T) {
	var e wire.Enc
	wantBytes(t, "zero Enc", &e, "")
	if e.U() != &e || e.I() != &e || e.B() != &e || e.S() != &e {
		t.Error("a call without values returns another Enc")
	}
	wantBytes(t, "calls without values", &e, "")
	if e.U(1) != &e || e.I(2) != &e || e.B(true) != &e || e.S("a") != &e || e.List(3) != &e {
		t.Error("a call returns another Enc")
	}
	wantBytes(t, "calls", &e, "\x01\x02\x01\x01a\x01\x03")
	wantBytes(t, "Bytes again", &e, "\x01\x02\x01\x01a\x01\x03")
	wantBytes(t, "a call after Bytes", e.U(4), "\x01\x02\x01\x01a\x01\x03\x04")
	one := e
	two := e
	one.U(5)
	two.U(6)
	wantBytes(t, "the first copy", &one, "\x01\x02\x01\x01a\x01\x03\x04\x05")
	wantBytes(t, "the second copy", &two, "\x01\x02\x01\x01a\x01\x03\x04\x06")
	wantBytes(t, "what was copied", &e, "\x01\x02\x01\x01a\x01\x03\x04")
}

// K3: the slices that are handed in, and their spare capacity, stay as they are.
func TestArgumentsStay(t *testing.T) {
	u := []uint64{300, 2, 3, 4}
	i := []int{-1, 2, 3, 4}
	b := []bool{true, false, true, true}
	s := []string{"a", "b", "c", "d"}
	e := enc().U(u[:2]...).I(i[:2]...).B(b[:2]...).S(s[:2]...).List(i[:2]...)
	want := e.Bytes()
	if !slices.Equal(u, []uint64{300, 2, 3, 4}) || !slices.Equal(i, []int{-1, 2, 3, 4}) || !slices.Equal(b, []bool{true, false, true, true}) || !slices.Equal(s, []string{"a", "b", "c", "d"}) {
		t.Error("an argument was changed")
	}
	u[0], i[1], b[0], s[0] = 9, 9, false, "z"
	wantBytes(t, "after the arguments were changed", e, want)
}

// P1.1: values are decoded as described, byte by byte.
func TestValuesAreDecoded(t *testing.T) {
	for _, n := range numbers {
		d := wire.From(n.text + "z")
		if v := d.U(); v != n.v || d.Err() != api.OK || d.Left() != 1 {
			t.Errorf("U of %x: %d, error %d, %d left", n.text, v, d.Err(), d.Left())
		}
	}
	d := wire.From("\x07\x82\x2c\x01\x00\x02ab\x00\x03\x01\x81\x48\x00\x00z")
	if d.Err() != api.OK || d.Left() != 16 {
		t.Errorf("From: error %d, %d left", d.Err(), d.Left())
	}
	if a, b := d.I(7), d.I(math.MaxInt); a != 7 || b != 300 || d.Left() != 13 {
		t.Errorf("I: %d, %d, %d left", a, b, d.Left())
	}
	if a, b := d.B(), d.B(); !a || b || d.Left() != 11 {
		t.Errorf("B: %t, %t, %d left", a, b, d.Left())
	}
	if a, b := d.S(2), d.S(9); a != "ab" || b != "" || d.Left() != 7 {
		t.Errorf("S: %q, %q, %d left", a, b, d.Left())
	}
	if a, b := d.List(3, 200), d.List(0, 0); !slices.Equal(a, []int{1, 200, 0}) || len(b) != 0 || d.Left() != 1 {
		t.Errorf("List: %v, %v, %d left", a, b, d.Left())
	}
	if d.Err() != api.OK || d.U() != 'z' || d.Left() != 0 || d.Done() != api.OK || d.Err() != api.OK {
		t.Errorf("the end: error %d, %d left", d.Err(), d.Left())
	}
	if e := wire.From("").Done(); e != api.OK {
		t.Errorf("Done of nothing: %d", e)
	}
	for _, end := range []string{"ab", ""} {
		d = wire.From(enc().S(end).Bytes())
		if s := d.S(2); s != end || d.Left() != 0 || d.Done() != api.OK {
			t.Errorf("S up to the end: %q, error %d", s, d.Err())
		}
	}
}

// P1.1: a decoded list shares no memory with another one, and needs no room for what it does not have.
func TestListsAreNew(t *testing.T) {
	d := wire.From("\x01\x05\x01\x06")
	a := d.List(1, 9)
	b := d.List(1, 9)
	a[0] = 7
	if b[0] != 6 || len(append(a, 8)) != 2 || b[0] != 6 {
		t.Error("lists share memory")
	}
	d = wire.From(enc().U(math.MaxInt).U(1, 2, 3).Bytes())
	if l := d.List(math.MaxInt, 9); len(l) != 0 || d.Err() != api.ErrEnd {
		t.Errorf("a list with most of it missing: %v, error %d", l, d.Err())
	}
}

// failure is bytes, a call that fails on them (its result as text), and the error.
type failure struct {
	what string
	text string
	call func(d *wire.Dec) string
	want api.Errno
}

func u(d *wire.Dec) string { return fmt.Sprint(d.U()) }
func b(d *wire.Dec) string { return fmt.Sprint(d.B()) }

func i(most int) func(d *wire.Dec) string {
	return func(d *wire.Dec) string { return fmt.Sprint(d.I(most)) }
}

func s(most int) func(d *wire.Dec) string {
	return func(d *wire.Dec) string { return d.S(most) }
}

func list(most, each int) func(d *wire.Dec) string {
	return func(d *wire.Dec) string { return fmt.Sprint(d.List(most, each)) }
}

const ff = "\xff\xff\xff\xff\xff\xff\xff\xff\xff\xff\xff\xff"

var failures = []failure{
	{"U of nothing", "", u, api.ErrEnd},
	{"U cut off", "\x81", u, api.ErrEnd},
	{"U cut off behind more bytes", "\x81\x80\x80", u, api.ErrEnd},
	{"U with a leading 128", "\x80\x05", u, api.ErrForm},
	{"U of 128 alone", "\x80", u, api.ErrForm},
	{"U of 128 and 0", "\x80\x00", u, api.ErrForm},
	{"U of 2^64", "\x82\x80\x80\x80\x80\x80\x80\x80\x80\x00", u, api.ErrForm},
	{"U of 2^64, its tenth byte not the last", "\x82\x80\x80\x80\x80\x80\x80\x80\x80\x80", u, api.ErrForm},
	{"U of 2^64, cut off ahead of its tenth byte", "\x82\x80\x80\x80\x80\x80\x80\x80\x80", u, api.ErrEnd},
	{"U of ten bytes, all ones", ff[:9] + "\x7f", u, api.ErrForm},
	{"U of nine bytes, all ones, cut off", ff[:9], u, api.ErrEnd},
	{"U of ten bytes, all ones, cut off", ff[:10], u, api.ErrForm},
	{"U of eleven bytes", "\x81\x80\x80\x80\x80\x80\x80\x80\x80\x80\x00", u, api.ErrForm},
	{"U of eleven bytes, cut off", "\x81\x80\x80\x80\x80\x80\x80\x80\x80\x80", u, api.ErrEnd},
	{"U of the greatest number with a byte more", "\x81" + ff[:9] + "\x7f", u, api.ErrForm},
	{"I of nothing", "", i(9), api.ErrEnd},
	{"I cut off", "\x81", i(9), api.ErrEnd},
	{"I with a leading 128", "\x80\x05", i(9), api.ErrForm},
	{"I above its limit", "\x08", i(7), api.ErrBig},
	{"I above a limit of 0", "\x01", i(0), api.ErrBig},
	{"I above a limit below 0", "\x01", i(-1), api.ErrBig},
	{"I above the least limit", "\x01", i(math.MinInt), api.ErrBig},
	{"I of 2^63", "\x81\x80\x80\x80\x80\x80\x80\x80\x80\x00", i(math.MaxInt), api.ErrBig},
	{"I of 2^64 - 1", "\x81" + ff[:8] + "\x7f", i(math.MaxInt), api.ErrBig},
	{"I of 2^64 - 1 above a limit below 0", "\x81" + ff[:8] + "\x7f", i(-1), api.ErrBig},
	{"I of 2^64", "\x82\x80\x80\x80\x80\x80\x80\x80\x80\x00", i(9), api.ErrForm},
	{"B of nothing", "", b, api.ErrEnd},
	{"B of 2", "\x02", b, api.ErrForm},
	{"B of 128", "\x80", b, api.ErrForm},
	{"B of 129", "\x81", b, api.ErrForm},
	{"B of 255", "\xff", b, api.ErrForm},
	{"S of nothing", "", s(9), api.ErrEnd},
	{"S with a leading 128", "\x80\x01a", s(9), api.ErrForm},
	{"S without its last byte", "\x03ab", s(9), api.ErrEnd},
	{"S without any byte", "\x01", s(9), api.ErrEnd},
	{"S of 2^63 - 1 bytes", ff[:8] + "\x7fab", s(math.MaxInt), api.ErrEnd},
	{"S above its limit", "\x03abc", s(2), api.ErrBig},
	{"S above its limit, and cut off", "\x03ab", s(2), api.ErrBig},
	{"S above a limit below 0", "\x01a", s(-5), api.ErrBig},
	{"S of 2^64 - 1 bytes", "\x81" + ff[:8] + "\x7fab", s(math.MaxInt), api.ErrBig},
	{"List of nothing", "", list(9, 9), api.ErrEnd},
	{"List with a leading 128", "\x80\x01\x01", list(9, 9), api.ErrForm},
	{"List without its last element", "\x03\x01\x02", list(9, 9), api.ErrEnd},
	{"List with its last element cut off", "\x02\x01\x81", list(9, 999), api.ErrEnd},
	{"List with a malformed element", "\x02\x01\x80\x01", list(9, 9), api.ErrForm},
	{"List with too great an element", "\x02\x01\x0a", list(9, 9), api.ErrBig},
	{"List with an element above a limit below 0", "\x01\x01", list(9, -1), api.ErrBig},
	{"List above its limit", "\x03\x01\x02\x03", list(2, 9), api.ErrBig},
	{"List above a limit below 0", "\x01\x01", list(-1, 9), api.ErrBig},
	{"List above its limit, with a malformed element", "\x03\x80\x02\x03", list(2, 9), api.ErrBig},
}

func isZero(s string) bool {
	return s == "" || s == "0" || s == "false" || s == "[]"
}

// P1.1: each error that the chapter names; beside it the result is zero.
func TestErrors(t *testing.T) {
	for _, f := range failures {
		for _, before := range []string{"", "\x00"} {
			d := wire.From(before + f.text)
			if before != "" {
				d.U()
			}
			if s := f.call(d); d.Err() != f.want || !isZero(s) {
				t.Errorf("%s: %q, error %d, want %d", f.what, s, d.Err(), f.want)
			}
		}
	}
}

// P1.1: limits below 0 count as 0, which zero itself does not exceed.
func TestLimitsBelowZero(t *testing.T) {
	for _, most := range []int{0, -1, math.MinInt} {
		d := wire.From("\x00\x00\x00\x02\x00\x00")
		if d.I(most) != 0 || d.S(most) != "" || len(d.List(most, most)) != 0 || len(d.List(2, most)) != 2 || d.Done() != api.OK {
			t.Errorf("limit %d: error %d", most, d.Err())
		}
	}
}

// wantStuck fails unless the error is e, and stays so whatever is called, with results of zero.
func wantStuck(t *testing.T, what string, d *wire.Dec, e api.Errno) {
	t.Helper()
	for _, call := range []func(d *wire.Dec) string{u, i(999), b, s(999), list(999, 999)} {
		if s := call(d); !isZero(s) || d.Err() != e {
			t.Errorf("%s: %q, error %d, want %d", what, s, d.Err(), e)
		}
		d.Fail(api.ErrLost)
		d.Fail(api.OK)
		if got := d.Done(); got != e || d.Err() != e {
			t.Errorf("%s: Done %d, error %d, want %d", what, got, d.Err(), e)
		}
	}
}

// P1.1: the first error persists.
func TestFirstErrorPersists(t *testing.T) {
	for _, f := range failures {
		d := wire.From(f.text)
		if f.want != api.ErrEnd { // where it is, bytes behind would complete the value
			d = wire.From(f.text + "\x01\x01\x01a\x01\x01")
		}
		f.call(d)
		wantStuck(t, f.what, d, f.want)
	}
}

// P1.1: Fail and Done set the error, if there is none yet.
func TestFailAndDone(t *testing.T) {
	const rest = "\x01\x01\x01a\x01\x01"
	d := wire.From(rest)
	d.Fail(api.OK)
	if d.Err() != api.OK || d.U() != 1 {
		t.Error("Fail with OK")
	}
	d.Fail(api.ErrSum)
	wantStuck(t, "Fail", d, api.ErrSum)
	for n := 1; n <= len(rest); n++ {
		d = wire.From(rest[:n])
		if e := d.Done(); e != api.ErrForm || d.Err() != e {
			t.Errorf("Done with %d bytes left: %d, error %d", n, e, d.Err())
		}
		wantStuck(t, "Done with bytes left", d, api.ErrForm)
	}
	d = wire.From("")
	d.Done()
	d.U()
	wantStuck(t, "a call after the end", d, api.ErrEnd)
}

// P1.2: a value decodes to itself, and what is cut off anywhere does not.
func TestRoundTrips(t *testing.T) {
	var l []uint64
	for v := range uint64(70000) {
		l = append(l, v)
	}
	for shift := range 64 {
		v := uint64(1) << shift
		l = append(l, v-1, v, v+1, -v, ^v, v*0x9e3779b97f4a7c15)
	}
	for _, v := range l {
		text := enc().U(v).Bytes()
		d := wire.From(text)
		if got := d.U(); got != v || d.Done() != api.OK || len(text) > 10 {
			t.Fatalf("%d decodes to %d, error %d", v, got, d.Err())
		}
		for n := range len(text) {
			d := wire.From(text[:n])
			if d.U() != 0 || d.Err() != api.ErrEnd {
				t.Fatalf("%d cut off at %d: error %d", v, n, d.Err())
			}
		}
	}
}

// P1.2: all kinds of values, one after the other, decode to themselves.
func TestMixedRoundTrip(t *testing.T) {
	long := strings.Repeat("\x80\x00\xff", 200)
	many := []int{0, 127, 128, math.MaxInt}
	text := enc().I(0, math.MaxInt).B(true, false).S(long, "").List(many...).List().U(math.MaxUint64).Bytes()
	decode := func(text string) (bool, api.Errno) {
		d := wire.From(text)
		ok := d.I(0) == 0 && d.I(math.MaxInt) == math.MaxInt && d.B() && !d.B()
		ok = ok && d.S(600) == long && d.S(0) == "" && slices.Equal(d.List(4, math.MaxInt), many)
		ok = ok && len(d.List(0, 0)) == 0 && d.U() == math.MaxUint64
		return ok, d.Done()
	}
	if ok, e := decode(text); !ok || e != api.OK {
		t.Errorf("decoded: %t, error %d", ok, e)
	}
	for n := range len(text) {
		if ok, e := decode(text[:n]); ok || e != api.ErrEnd {
			t.Errorf("cut off at %d: %t, error %d", n, ok, e)
		}
	}
}

// P1.2: whatever decodes without an error is the one encoding of what it decodes to.
func TestOneEncoding(t *testing.T) {
	text := make([]byte, 4)
	for v := range 1 << 18 {
		// The first two bytes run through all values, the others through bytes at the edges.
		text[0], text[1] = byte(v>>10), byte(v>>2)
		text[2] = "\x00\x7f\x80\xff"[v&3]
		text[3] = "\x01\x81"[v&1]
		all := string(text)
		check := func(what string, d *wire.Dec, again string) {
			if used := all[:len(all)-d.Left()]; d.Err() == api.OK && again != used {
				t.Fatalf("%s of %x: encoded again %x", what, used, again)
			}
		}
		d := wire.From(all)
		check("U", d, enc().U(d.U()).Bytes())
		d = wire.From(all)
		check("I", d, enc().I(d.I(math.MaxInt)).Bytes())
		d = wire.From(all)
		check("B", d, enc().B(d.B()).Bytes())
		d = wire.From(all)
		check("S", d, enc().S(d.S(9)).Bytes())
		d = wire.From(all)
		check("List", d, enc().List(d.List(9, math.MaxInt)...).Bytes())
	}
}
