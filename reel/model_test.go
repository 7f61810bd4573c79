package reel_test

import (
	"fmt"
	"math/rand"
	"slices"
	"strings"
	"testing"

	"glacier/api"
	"glacier/reel"
)

// model is a volume as the chapter describes it. A block is its bytes in brackets, a mark "|", and a torn block its bytes after "?".
type model struct {
	room, sure, at, erased int
	label                  string
	protected              bool
	blocks                 []string
}

func (m *model) used() int {
	sum := 0
	for _, b := range m.blocks {
		sum += len(bytesOf(b)) + reel.Over
	}
	return sum
}

func bytesOf(b string) string {
	return strings.Trim(b, "[]|?")
}

func (m *model) torn() bool {
	n := len(m.blocks)
	return n > 0 && m.blocks[n-1][0] == '?'
}

func (m *model) add(b string) api.Errno {
	if m.protected {
		return api.ErrProtect
	}
	if m.at != len(m.blocks) || m.torn() {
		return api.ErrOrder
	}
	if m.used()+len(bytesOf(b))+reel.Over > m.room {
		return api.ErrFull
	}
	m.blocks = append(slices.Clone(m.blocks), b)
	m.at++
	return api.OK
}

func (m *model) read() (string, bool, api.Errno) {
	if m.at == len(m.blocks) {
		return "", false, api.ErrEnd
	}
	b := m.blocks[m.at]
	if b[0] == '?' {
		return "", false, api.ErrSum
	}
	m.at++
	return bytesOf(b), b == "|", api.OK
}

func (m *model) seek(n int) api.Errno {
	if n < 0 || n > len(m.blocks) {
		return api.ErrArg
	}
	m.at = n
	return api.OK
}

func (m *model) skip() api.Errno {
	for n, b := range m.blocks {
		if n >= m.at && b == "|" {
			m.at = n + 1
			return api.OK
		}
	}
	return api.ErrEnd
}

func (m *model) trim() api.Errno {
	if !m.torn() {
		return api.ErrNone
	}
	if m.protected {
		return api.ErrProtect
	}
	m.blocks = m.blocks[:len(m.blocks)-1]
	m.sure = len(m.blocks)
	m.at = min(m.at, len(m.blocks))
	return api.OK
}

func (m *model) erase(label string) api.Errno {
	if m.protected {
		return api.ErrProtect
	}
	m.blocks, m.sure, m.at, m.label = nil, 0, 0, label
	m.erased++
	return api.OK
}

func (m *model) crash(choice []int) {
	pick := func(at, n int) int {
		if at >= len(choice) {
			return 0
		}
		return (choice[at]%n + n) % n
	}
	keep := m.sure + pick(0, len(m.blocks)-m.sure+1)
	kept := slices.Clone(m.blocks[:keep])
	if keep < len(m.blocks) && len(bytesOf(m.blocks[keep])) > 0 {
		s := bytesOf(m.blocks[keep])
		if j := pick(1, len(s)); j > 0 {
			kept = append(kept, "?"+s[:j])
		}
	}
	m.blocks, m.sure, m.at = kept, len(kept), 0
}

func (m *model) spoil(n, at int, by byte) bool {
	if n < 0 || n >= len(m.blocks) {
		return false
	}
	s := []byte(bytesOf(m.blocks[n]))
	if at < 0 || at >= len(s) {
		return false
	}
	s[at] ^= by
	if m.blocks[n][0] == '?' {
		m.blocks[n] = "?" + string(s)
	} else {
		m.blocks[n] = "[" + string(s) + "]"
	}
	return true
}

func (m *model) compare(t *testing.T, what string, v *reel.Volume) {
	t.Helper()
	l := strings.Join(m.blocks, "")
	if m.torn() {
		l = strings.Join(m.blocks[:len(m.blocks)-1], "") + "?"
	}
	wantVolume(t, what, v, l, m.at, m.used())
	want(t, what+": Len", v.Len(), len(m.blocks))
	want(t, what+": Label", v.Label(), m.label)
	want(t, what+": Erased", v.Erased(), m.erased)
	if v.Used() > v.Room() {
		t.Errorf("%s: more than the capacity is used", what)
	}
}

func anyChoice(r *rand.Rand) []int {
	var l []int
	for range r.Intn(4) {
		l = append(l, r.Intn(20)-6)
	}
	return l
}

// step makes a call on both, and says which.
func (m *model) step(t *testing.T, r *rand.Rand, v *reel.Volume) string {
	s, n := "xyxyxyxyxy"[:r.Intn(9)], r.Intn(len(m.blocks)+3)-1
	switch r.Intn(16) {
	case 0, 1, 2:
		want(t, "Write", v.Write(s), m.add("["+s+"]"))
		return fmt.Sprintf("Write %q", s)
	case 3:
		want(t, "Mark", v.Mark(), m.add("|"))
		return "Mark"
	case 4:
		want(t, "Flush", v.Flush(), api.OK)
		m.sure = len(m.blocks)
		return "Flush"
	case 5, 6:
		s1, is1, e1 := v.Read()
		s2, is2, e2 := m.read()
		want(t, "Read", e1, e2)
		want(t, "Read", s1, s2)
		want(t, "Read", is1, is2)
		return "Read"
	case 7:
		want(t, "Seek", v.Seek(n), m.seek(n))
		return fmt.Sprint("Seek ", n)
	case 8, 9, 10: // else most would be ErrOrder
		want(t, "Seek", v.Seek(v.Len()), m.seek(len(m.blocks)))
		return "Seek to the end"
	case 11:
		want(t, "Skip", v.Skip(), m.skip())
		return "Skip"
	case 12:
		want(t, "Trim", v.Trim(), m.trim())
		return "Trim"
	case 13:
		choice := anyChoice(r)
		v.Crash(choice)
		m.crash(choice)
		return fmt.Sprint("Crash ", choice)
	case 14:
		at, by := r.Intn(8)-1, byte(r.Intn(3))
		want(t, "Spoil", v.Spoil(n, at, by), m.spoil(n, at, by))
		return fmt.Sprint("Spoil ", n, at, by)
	}
	if r.Intn(4) == 0 {
		want(t, "Erase", v.Erase(s), m.erase(s))
		return fmt.Sprintf("Erase %q", s)
	}
	m.protected = r.Intn(3) == 0
	v.Protect(m.protected)
	return fmt.Sprint("Protect ", m.protected)
}

// P5.1, P5.3: after any sequence of calls the volume is what the chapter says.
func TestAgainstModel(t *testing.T) {
	for seed := range int64(400) {
		r := rand.New(rand.NewSource(seed))
		room := r.Intn(100)
		v := reel.New(room)
		m := &model{room: room}
		var steps []string
		for range 120 {
			steps = append(steps, m.step(t, r, v))
			m.compare(t, steps[len(steps)-1], v)
			if t.Failed() {
				t.Fatalf("seed %d, room %d: %s", seed, room, strings.Join(steps, "; "))
			}
		}
	}
}

// tape is what was written to a volume, each block where it was written.
type tape struct {
	written []string // "" is a mark
	flushed int
}

// check compares each block with what was written, as long as it isn't torn.
func (p *tape) check(t *testing.T, v *reel.Volume) {
	t.Helper()
	if v.Len() < p.flushed || v.Len() > len(p.written) {
		t.Fatalf("%d blocks, of which %d were flushed and %d written", v.Len(), p.flushed, len(p.written))
	}
	must(t, v.Seek(0))
	for n := range v.Len() {
		s, mark, e := v.Read()
		if e == api.ErrSum && n == v.Len()-1 && n >= p.flushed {
			must(t, v.Trim())
			return
		}
		if e != api.OK || s != p.written[n] || mark != (s == "") {
			t.Fatalf("block %d of %d: %q, %v, %d, want %q", n, v.Len(), s, mark, e, p.written[n])
		}
	}
}

// write tries to write at any position.
func (p *tape) write(t *testing.T, v *reel.Volume, s string) {
	t.Helper()
	at := v.At()
	write := v.Mark
	if s != "" {
		write = func() api.Errno { return v.Write(s) }
	}
	switch e := write(); {
	case e == api.OK && at == len(p.written):
		p.written = append(p.written, s)
	case e == api.OK || e == api.ErrOrder && at == len(p.written):
		t.Fatalf("a write at %d of %d: %d", at, len(p.written), e)
	}
}

// P5.2: without Erase and Spoil each block stays what and where it was written, and what was flushed survives any crash.
func TestBlocksStay(t *testing.T) {
	for seed := range int64(300) {
		r := rand.New(rand.NewSource(seed))
		v := reel.New(r.Intn(400))
		p := &tape{}
		for i := range 80 {
			switch r.Intn(10) {
			case 0:
				must(t, v.Flush())
				p.flushed = len(p.written)
			case 1:
				v.Protect(false)
				v.Crash(anyChoice(r))
				p.check(t, v)
				p.written = p.written[:v.Len()]
				p.flushed = len(p.written)
			case 2:
				must(t, v.Seek(r.Intn(v.Len()+1)))
			case 3:
				v.Protect(r.Intn(3) == 0)
			case 4:
				p.write(t, v, "")
			case 5, 6:
				p.write(t, v, fmt.Sprint("block ", i))
			default:
				must(t, v.Seek(v.Len()))
			}
			at := v.At()
			p.check(t, v)
			must(t, v.Seek(min(at, v.Len())))
		}
	}
}
