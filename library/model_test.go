package library_test

import (
	"fmt"
	"math/rand"
	"slices"
	"strings"
	"testing"

	"glacier/api"
	"glacier/library"
	"glacier/reel"
	"glacier/tapefmt"
)

// model is the drives as the chapter describes them; old lists the volumes that were mounted, the most recent one last.
type model struct {
	volumes []*reel.Volume
	in      []int // for each drive its volume, or -1
	broken  []bool
	held    map[int]int
	old     []int
	moves   int
}

func newModel(rooms []int, drives int) *model {
	m := &model{held: map[int]int{}}
	for _, room := range rooms {
		m.volumes = append(m.volumes, reel.New(room))
	}
	for range drives {
		m.in = append(m.in, -1)
		m.broken = append(m.broken, false)
	}
	return m
}

// next returns the drive into which the next volume goes, or -1.
func (m *model) next() int {
	for n, vol := range m.in {
		if vol < 0 && !m.broken[n] {
			return n
		}
	}
	for _, vol := range m.old {
		if n := slices.Index(m.in, vol); n >= 0 && m.held[vol] == 0 {
			return n
		}
	}
	return -1
}

func (m *model) mount(vol int) (int, api.Errno) {
	if vol < 0 || vol >= len(m.volumes) {
		return -1, api.ErrArg
	}
	if m.volumes[vol].Lost() {
		return -1, api.ErrLost
	}
	n := slices.Index(m.in, vol)
	if n < 0 {
		n = m.next()
		if n < 0 {
			return -1, api.ErrBusy
		}
		m.in[n] = vol
		m.moves++
	}
	m.old = slices.DeleteFunc(m.old, func(v int) bool { return v == vol })
	m.old = append(m.old, vol)
	return n, api.OK
}

func (m *model) hold(vol int) api.Errno {
	_, e := m.mount(vol)
	if e == api.OK {
		m.held[vol]++
	}
	return e
}

func (m *model) release(vol int) api.Errno {
	if m.held[vol] == 0 {
		return api.ErrNone
	}
	m.held[vol]--
	return api.OK
}

func (m *model) empty(n int) {
	delete(m.held, m.in[n])
	m.in[n] = -1
}

func (m *model) crash(choice []int) {
	for n := range m.in {
		m.empty(n)
	}
	for vol, v := range m.volumes {
		own := []int{0, 0}
		if 2*vol < len(choice) {
			copy(own, choice[2*vol:])
		}
		v.Crash(own)
		v.Trim()
	}
}

// compare compares all that can be seen of a library with its model.
func (m *model) compare(t *testing.T, l *library.Library) {
	t.Helper()
	working := 0
	for _, broken := range m.broken {
		if !broken {
			working++
		}
	}
	want(t, "Working", l.Working(), working)
	want(t, "Moves", l.Moves(), m.moves)
	want(t, "Len", l.Len(), len(m.volumes))
	for vol, v := range m.volumes {
		w := l.Volume(vol)
		want(t, fmt.Sprint("In of ", vol), l.In(vol), slices.Index(m.in, vol))
		want(t, "Label", w.Label(), v.Label())
		want(t, "Len of a volume", w.Len(), v.Len())
		want(t, "Used", w.Used(), v.Used())
		want(t, "Erased", w.Erased(), v.Erased())
	}
}

// operate makes a call on both that is about what is on a volume.
func (m *model) operate(t *testing.T, r *rand.Rand, l *library.Library, vol int) string {
	call, blob, from := r.Intn(4), uint64(r.Intn(2)), r.Intn(12)-1
	data := strings.Repeat("x", []int{0, 5, 200, 201, 401, 4001}[r.Intn(6)])
	fail := r.Intn(20)
	if vol >= 0 && vol < len(m.volumes) && fail < 8 {
		l.Volume(vol).Fail(fail)
		m.volumes[vol].Fail(fail)
		defer l.Volume(vol).Fail(-1)
		defer m.volumes[vol].Fail(-1)
	}
	_, want1 := m.mount(vol)
	var got1 api.Errno
	var got2, want2 any = nil, 0
	switch call {
	case 0:
		got2, got1 = l.Write(vol, blob, data)
		if want1 == api.OK {
			want2, want1 = tapefmt.Write(m.volumes[vol], blob, data)
		}
	case 1:
		want2 = ""
		got2, got1 = l.Read(vol, from, blob)
		if want1 == api.OK {
			want2, want1 = tapefmt.Read(m.volumes[vol], from, blob)
		}
	case 2:
		got2, got1 = 0, l.Erase(vol, fmt.Sprint("V", from))
		if want1 == api.OK {
			want1 = m.volumes[vol].Erase(fmt.Sprint("V", from))
		}
	case 3:
		var items, wanted []tapefmt.Item
		items, got1 = l.Scan(vol)
		if want1 == api.OK {
			wanted, _, want1 = tapefmt.Scan(m.volumes[vol])
		}
		got2, want2 = fmt.Sprint(items), fmt.Sprint(wanted)
	}
	what := fmt.Sprint([]string{"Write", "Read", "Erase", "Scan"}[call], " ", vol, ", ", blob, ", ", from)
	want(t, what, got1, want1)
	want(t, what, got2, want2)
	return what
}

// step makes a call on both, and says which.
func (m *model) step(t *testing.T, r *rand.Rand, l *library.Library) string {
	vol, n, is := r.Intn(len(m.volumes)+2)-1, r.Intn(5)-1, r.Intn(2) == 0
	switch r.Intn(14) {
	case 0, 1, 2:
		n1, e1 := l.Mount(vol)
		n2, e2 := m.mount(vol)
		want(t, "Mount", e1, e2)
		want(t, "Mount", n1, n2)
		return fmt.Sprint("Mount ", vol)
	case 3, 4:
		want(t, "Hold", l.Hold(vol), m.hold(vol))
		return fmt.Sprint("Hold ", vol)
	case 5, 6, 7:
		want(t, "Release", l.Release(vol), m.release(vol))
		return fmt.Sprint("Release ", vol)
	case 8:
		l.Break(n, is)
		if n >= 0 && n < len(m.in) {
			m.empty(n)
			m.broken[n] = is
		}
		return fmt.Sprint("Break ", n, is)
	case 9:
		switch v := max(0, min(vol, len(m.volumes)-1)); r.Intn(20) {
		case 0, 1:
			choice := []int{r.Intn(9), r.Intn(9), r.Intn(9), r.Intn(9), r.Intn(9)}[:r.Intn(6)]
			l.Crash(choice)
			m.crash(choice)
			return fmt.Sprint("Crash ", choice)
		case 2:
			l.Volume(v).Lose()
			m.volumes[v].Lose()
			return fmt.Sprint("Lose ", v)
		default:
			l.Volume(v).Protect(is)
			m.volumes[v].Protect(is)
			return fmt.Sprint("Protect ", v, is)
		}
	}
	return m.operate(t, r, l, vol)
}

// wantDrives checks what holds for the drives, whatever was called; before is where the volumes were that are held.
func wantDrives(t *testing.T, l *library.Library, before map[int]int) {
	t.Helper()
	var drives []int
	for vol := range l.Len() {
		if n := l.In(vol); n >= 0 {
			drives = append(drives, n)
		}
		if n, is := before[vol]; is {
			want(t, fmt.Sprint("a held volume, ", vol, ", stays"), l.In(vol), n)
		}
	}
	slices.Sort(drives)
	want(t, "no drive has two volumes", len(slices.Compact(slices.Clone(drives))), len(drives))
	want(t, "no more volumes are in drives than drives work", len(drives) <= l.Working(), true)
}

// P8.1, P8.2: after any sequence of calls the library is what the chapter says.
func TestAgainstModel(t *testing.T) {
	for seed := range int64(300) {
		r := rand.New(rand.NewSource(seed))
		var sizes []int
		for range 1 + r.Intn(6) {
			sizes = append(sizes, r.Intn(3000))
		}
		drives := r.Intn(4)
		l, m := library.New(sizes, drives), newModel(sizes, drives)
		var steps []string
		for range 150 {
			before := map[int]int{}
			for vol, n := range m.held {
				if n > 0 {
					before[vol] = l.In(vol)
				}
			}
			steps = append(steps, m.step(t, r, l))
			if last := steps[len(steps)-1]; strings.HasPrefix(last, "Break") || strings.HasPrefix(last, "Crash") {
				before = nil
			}
			m.compare(t, l)
			wantDrives(t, l, before)
			if t.Failed() {
				t.Fatalf("seed %d, drives %d, rooms %v: %s", seed, drives, sizes, strings.Join(steps, "; "))
			}
		}
	}
}
