package meter_test

import (
	"math"
	"math/rand"
	"slices"
	"testing"

	"glacier/api"
	"glacier/meter"
)

// device is what the layers above make of this one.
type device struct {
	meter.Meter
	meter.Luck
}

func want[T comparable](t *testing.T, what string, got, want T) {
	t.Helper()
	if got != want {
		t.Errorf("%s: %v, want %v", what, got, want)
	}
}

func wantMeter(t *testing.T, what string, m *meter.Meter, room, used int) {
	t.Helper()
	if m.Room() != room || m.Used() != used || m.Free() != room-used {
		t.Errorf("%s: Room %d, Used %d, Free %d, want %d, %d, %d", what, m.Room(), m.Used(), m.Free(), room, used, room-used)
	}
}

// P3.1: a meter has its capacity, which is at least 0, and nothing of it is used.
func TestMade(t *testing.T) {
	for _, room := range []int{0, 1, 10, 1 << 40, math.MaxInt} {
		m := meter.Made(room)
		wantMeter(t, "Made", &m, room, 0)
	}
	for _, room := range []int{-1, -10, math.MinInt} {
		m := meter.Made(room)
		wantMeter(t, "Made below 0", &m, 0, 0)
		want(t, "Take 1 of no room", m.Take(1), api.ErrFull)
		want(t, "Take 0 of no room", m.Take(0), api.OK)
		wantMeter(t, "Take of no room", &m, 0, 0)
	}
	var zero meter.Meter
	wantMeter(t, "the zero meter", &zero, 0, 0)
}

// P3.1, the chapter's example: Take and Give count bytes.
func TestTakeAndGive(t *testing.T) {
	m := meter.Made(10)
	want(t, "Take 7", m.Take(7), api.OK)
	want(t, "Take 4", m.Take(4), api.ErrFull)
	wantMeter(t, "7 are taken", &m, 10, 7)
	want(t, "Give 8", m.Give(8), api.ErrArg)
	wantMeter(t, "8 aren't given", &m, 10, 7)
	want(t, "Take 3", m.Take(3), api.OK)
	wantMeter(t, "all are taken", &m, 10, 10)
	want(t, "Take 1 of none", m.Take(1), api.ErrFull)
	want(t, "Take 0 of none", m.Take(0), api.OK)
	want(t, "Give 0", m.Give(0), api.OK)
	want(t, "Give 4", m.Give(4), api.OK)
	wantMeter(t, "4 are given", &m, 10, 6)
	want(t, "Give 6", m.Give(6), api.OK)
	wantMeter(t, "all are given", &m, 10, 0)
	want(t, "Give 1 of none", m.Give(1), api.ErrArg)
	want(t, "Give 0 of none", m.Give(0), api.OK)
	wantMeter(t, "the end", &m, 10, 0)
}

// P3.1, P3.2: numbers below 0 are refused, and no number is great enough to pass round the capacity.
func TestNumbersOutOfRange(t *testing.T) {
	for _, room := range []int{0, 10, math.MaxInt} {
		m := meter.Made(room)
		m.Take(room / 2)
		for _, n := range []int{-1, -10, math.MinInt + 1, math.MinInt} {
			want(t, "Take below 0", m.Take(n), api.ErrArg)
			want(t, "Give below 0", m.Give(n), api.ErrArg)
			want(t, "Fits below 0", m.Fits(n), true)
		}
		if room/2 < room-1 {
			want(t, "Take too many", m.Take(math.MaxInt), api.ErrFull)
			want(t, "Fits too many", m.Fits(math.MaxInt), false)
		}
		want(t, "Give too many", m.Give(math.MaxInt), api.ErrArg)
		wantMeter(t, "numbers out of range", &m, room, room/2)
	}
	m := meter.Made(math.MaxInt)
	want(t, "Take all", m.Take(math.MaxInt), api.OK)
	want(t, "Take one more", m.Take(1), api.ErrFull)
	wantMeter(t, "all are taken", &m, math.MaxInt, math.MaxInt)
	want(t, "Give all", m.Give(math.MaxInt), api.OK)
	wantMeter(t, "all are given", &m, math.MaxInt, 0)
}

// P3.1: Fits says whether as many bytes are free, and takes none.
func TestFits(t *testing.T) {
	m := meter.Made(10)
	m.Take(7)
	for n := -2; n < 15; n++ {
		want(t, "Fits", m.Fits(n), n <= 3)
	}
	wantMeter(t, "after Fits", &m, 10, 7)
	m.Take(3)
	want(t, "Fits 0 of none", m.Fits(0), true)
	want(t, "Fits 1 of none", m.Fits(1), false)
	want(t, "Fits -1 of none", m.Fits(-1), true)
}

// P3.1, P3.2: after any sequence of calls the meter is what the calls made it, and never more than its capacity is used.
func TestMeterAfterManyCalls(t *testing.T) {
	r := rand.New(rand.NewSource(3))
	for range 200 {
		room := r.Intn(40) - 5
		m := meter.Made(room)
		room = max(room, 0)
		used := 0
		for range 200 {
			n := r.Intn(40) - 5
			if r.Intn(2) == 0 {
				e := api.OK
				if n < 0 {
					e = api.ErrArg
				} else if used+n > room {
					e = api.ErrFull
				} else {
					used += n
				}
				want(t, "Take", m.Take(n), e)
			} else {
				e := api.OK
				if n < 0 || n > used {
					e = api.ErrArg
				} else {
					used -= n
				}
				want(t, "Give", m.Give(n), e)
			}
			wantMeter(t, "many calls", &m, room, used)
			want(t, "Fits", m.Fits(n), n <= room-used)
			if m.Used() > m.Room() {
				t.Fatal("more than the capacity is used")
			}
		}
	}
}

func wantTries(t *testing.T, what string, l *meter.Luck, tries ...api.Errno) {
	t.Helper()
	for i, e := range tries {
		if got := l.Try(); got != e {
			t.Errorf("%s: try %d: %d, want %d", what, i, got, e)
		}
	}
}

// P3.1: luck fails the one call that it was armed for.
func TestFail(t *testing.T) {
	var l meter.Luck
	want(t, "Lost", l.Lost(), false)
	wantTries(t, "the zero luck", &l, api.OK, api.OK, api.OK)
	l.Fail(1)
	wantTries(t, "Fail 1", &l, api.OK, api.ErrIO, api.OK, api.OK)
	l.Fail(0)
	wantTries(t, "Fail 0", &l, api.ErrIO, api.OK, api.OK)
	l.Fail(5)
	wantTries(t, "Fail 5", &l, api.OK, api.OK)
	l.Fail(1)
	wantTries(t, "armed anew", &l, api.OK, api.ErrIO, api.OK, api.OK, api.OK)
	for _, n := range []int{-1, -2, math.MinInt} {
		l.Fail(2)
		l.Fail(n)
		wantTries(t, "disarmed", &l, api.OK, api.OK, api.OK, api.OK)
	}
	want(t, "Lost after Fail", l.Lost(), false)
}

// P3.1: luck can be armed with great numbers.
func TestFailLate(t *testing.T) {
	for _, n := range []int{1<<30 - 1, 1 << 30, 1<<30 + 1, math.MaxInt - 1, math.MaxInt} {
		var l meter.Luck
		l.Fail(n)
		for range 1000 {
			want(t, "Try", l.Try(), api.OK)
		}
	}
}

// P3.1: 2^30 is the greatest number of calls that precede the one that fails.
func TestFailLatest(t *testing.T) {
	if testing.Short() {
		t.Skip("it takes 2^30 calls")
	}
	var l meter.Luck
	l.Fail(math.MaxInt)
	for i := range 1 << 30 {
		if l.Try() != api.OK {
			t.Fatalf("try %d failed", i)
		}
	}
	wantTries(t, "after 2^30 calls", &l, api.ErrIO, api.OK)
}

// P3.1: a lost device stays lost, and its calls don't count.
func TestLose(t *testing.T) {
	var l meter.Luck
	l.Lose()
	want(t, "Lost", l.Lost(), true)
	wantTries(t, "lost", &l, api.ErrLost, api.ErrLost)
	l.Fail(0)
	wantTries(t, "lost and armed", &l, api.ErrLost, api.ErrLost)
	l.Fail(-1)
	l.Lose()
	wantTries(t, "lost and disarmed", &l, api.ErrLost)
	want(t, "Lost still", l.Lost(), true)

	var armed meter.Luck
	armed.Fail(1)
	wantTries(t, "armed", &armed, api.OK)
	armed.Lose()
	wantTries(t, "armed and lost", &armed, api.ErrLost, api.ErrLost)
}

// P3.1: a device has the methods of both, and each device is its own.
func TestDevice(t *testing.T) {
	a, b := device{Meter: meter.Made(5)}, device{Meter: meter.Made(5)}
	want(t, "Take", a.Take(5), api.OK)
	a.Lose()
	b.Fail(0)
	wantMeter(t, "a", &a.Meter, 5, 5)
	wantMeter(t, "b", &b.Meter, 5, 0)
	want(t, "a's Try", a.Try(), api.ErrLost)
	want(t, "b's Try", b.Try(), api.ErrIO)
	want(t, "b's Lost", b.Lost(), false)
}

// P3.1: a choice is a value from 0 on, modulo n, and 0 where there is none.
func TestPick(t *testing.T) {
	l := []int{7, 0, -1, -7, math.MaxInt, math.MinInt, 2}
	for _, c := range []struct{ at, n, want int }{
		{0, 10, 7}, {0, 7, 0}, {0, 3, 1}, {0, 1, 0}, {0, math.MaxInt, 7},
		{1, 5, 0},
		{2, 5, 4}, {2, 1, 0}, {2, 2, 1}, {2, math.MaxInt, math.MaxInt - 1},
		{3, 7, 0}, {3, 5, 3}, {3, 10, 3},
		{4, 2, 1}, {4, math.MaxInt, 0}, {4, math.MaxInt - 1, 1},
		{5, 2, 0}, {5, 3, 1}, {5, math.MaxInt, math.MaxInt - 1},
		{6, 3, 2},
		{0, 0, 0}, {0, -1, 0}, {0, -3, 0}, {0, math.MinInt, 0},
		{7, 10, 0}, {8, 10, 0}, {math.MaxInt, 10, 0}, {-1, 10, 0}, {math.MinInt, 10, 0},
	} {
		if got := meter.Pick(l, c.at, c.n); got != c.want {
			t.Errorf("Pick at %d of %d: %d, want %d", c.at, c.n, got, c.want)
		}
	}
	want(t, "Pick of none", meter.Pick(nil, 0, 5), 0)
	want(t, "Pick of an empty list", meter.Pick(l[:0], 0, 5), 0)
	if !slices.Equal(l, []int{7, 0, -1, -7, math.MaxInt, math.MinInt, 2}) {
		t.Error("Pick changed its argument")
	}
}

// P3.1: numbers below 0 count as 0 in a sum, which is at most 2^62.
func TestSum(t *testing.T) {
	const top = 1 << 62
	for _, c := range []struct {
		l    []int
		want int
	}{
		{nil, 0},
		{[]int{}, 0},
		{[]int{5}, 5},
		{[]int{1, 2, 3}, 6},
		{[]int{-1}, 0},
		{[]int{5, -3, 4, math.MinInt}, 9},
		{[]int{math.MinInt, math.MinInt, 7}, 7},
		{[]int{top - 1}, top - 1},
		{[]int{top}, top},
		{[]int{top + 1}, top},
		{[]int{math.MaxInt}, top},
		{[]int{top - 1, 1}, top},
		{[]int{top - 1, 2}, top},
		{[]int{top - 2, 1}, top - 1},
		{[]int{math.MaxInt, math.MaxInt, math.MaxInt}, top},
		{[]int{top, top, top, top}, top},
		{[]int{1, math.MaxInt}, top},
		{[]int{math.MaxInt, math.MinInt, -1, 0}, top},
		{[]int{top, -5}, top},
	} {
		if got := meter.Sum(c.l...); got != c.want {
			t.Errorf("Sum of %v: %d, want %d", c.l, got, c.want)
		}
	}
	l := []int{-1, 2, 3}
	want(t, "Sum", meter.Sum(l[:2]...), 2)
	if !slices.Equal(l, []int{-1, 2, 3}) {
		t.Error("Sum changed its argument")
	}
}
