package command_test

import (
	"math"
	"math/rand"
	"strings"
	"testing"

	"glacier/api"
	"glacier/command"
	"glacier/wire"
)

// number returns a number from 0 to most, often one at an edge.
func number(r *rand.Rand, most int) int {
	switch r.Intn(4) {
	case 0:
		return 0
	case 1:
		return most
	case 2:
		return min(r.Intn(300), most)
	}
	return r.Intn(most + 1)
}

// random returns a command that is Good.
func random(r *rand.Rand) command.Command {
	var disks []int
	for n := range 6 {
		if r.Intn(2) == 0 {
			disks = append(disks, n)
		}
	}
	name := make([]byte, number(r, api.MaxName))
	for i := range name {
		name[i] = byte(r.Intn(256))
	}
	return command.Command{
		Kind:   1 + r.Intn(14),
		Client: number(r, most),
		Seq:    number(r, most),
		Name:   string(name),
		Blob:   r.Uint64() >> r.Intn(64),
		Size:   number(r, api.MaxBlob),
		Sum:    r.Uint32() >> r.Intn(32),
		Disks:  disks,
		Pool:   r.Intn(2),
		Vol:    r.Intn(12),
		At:     number(r, most),
	}
}

// plain returns the encoding of a command as the chapter says it.
func plain(c command.Command) string {
	var e wire.Enc
	e.I(c.Kind).I(c.Client).I(c.Seq).S(c.Name).U(c.Blob).I(c.Size).U(uint64(c.Sum))
	return e.List(c.Disks...).I(c.Pool).I(c.Vol).I(c.At).Bytes()
}

// P12.1, P12.2: any command has the chapter's encoding, which decodes to it.
func TestRoundTrips(t *testing.T) {
	r := rand.New(rand.NewSource(1))
	for range 20000 {
		c := random(r)
		want(t, "Good of "+tell(c), c.Good(), true)
		s := command.Write(c)
		want(t, "Write of "+tell(c), s, plain(c))
		wantRead(t, "Read", s, c)
		if t.Failed() {
			return
		}
	}
}

// spoil returns s with a byte changed, inserted or removed.
func spoil(r *rand.Rand, s string) string {
	i := r.Intn(len(s))
	b := string([]byte{byte(r.Intn(256))})
	switch r.Intn(5) {
	case 0:
		return s[:i] + b + s[i:]
	case 1:
		return s[:i] + s[i+1:]
	case 2:
		return s[:i] + "\x80" + s[i:]
	}
	return s[:i] + b + s[i+1:]
}

// P12.1, P12.2: whatever bytes are given, Read returns a command of which they are the only encoding, or an error.
func TestOneEncoding(t *testing.T) {
	r := rand.New(rand.NewSource(2))
	read := 0
	for range 100000 {
		s := spoil(r, command.Write(random(r)))
		c, e := command.Read(s)
		if e != api.OK {
			want(t, "the command of an error", tell(c), nothing)
			continue
		}
		read++
		if !c.Good() || command.Write(c) != s {
			t.Fatalf("%x is read as %s, Good %t", s, tell(c), c.Good())
		}
	}
	if read < 10000 {
		t.Errorf("only %d of the bytes could be read", read)
	}
}

// model is Read as the chapter says it, from fields of any values.
func model(kind, client, seq uint64, name string, blob, size, sum uint64, disks []int, pool, vol, at uint64) api.Errno {
	big := kind > 14 || client > most || seq > most || len(name) > 32 || size > 4000 || len(disks) > 6 || pool > 1 || vol > 11 || at > most
	form := kind == 0 || sum > math.MaxUint32
	for i, d := range disks {
		big = big || d > 5
		form = form || i > 0 && d <= disks[i-1]
	}
	switch {
	case big:
		return api.ErrBig
	case form:
		return api.ErrForm
	}
	return api.OK
}

// P12.1: Read of fields that are valid or slightly too great returns the error that comes first, or the command.
func TestFieldsOfAnyValues(t *testing.T) {
	r := rand.New(rand.NewSource(3))
	near := func(most uint64) uint64 {
		if r.Intn(12) > 0 {
			return uint64(number(r, int(most)))
		}
		return most + 1 + uint64(r.Intn(3)/2*r.Intn(1<<30))
	}
	seen := map[api.Errno]int{}
	for range 50000 {
		kind, client, seq := near(14), near(most), near(most)
		name := strings.Repeat("n", int(near(32)%100))
		blob, size, sum := r.Uint64(), near(4000), near(math.MaxUint32)
		disks := random(r).Disks
		for range r.Intn(8) / 6 {
			disks = append(disks, r.Intn(8))
		}
		pool, vol, at := near(1), near(11), near(most)
		var e wire.Enc
		s := e.U(kind, client, seq).S(name).U(blob, size, sum).List(disks...).U(pool, vol, at).Bytes()
		errno := model(kind, client, seq, name, blob, size, sum, disks, pool, vol, at)
		seen[errno]++
		if errno != api.OK {
			wantError(t, "Read", s, errno)
		} else {
			wantRead(t, "Read", s, command.Command{int(kind), int(client), int(seq), name, blob, int(size), uint32(sum), disks, int(pool), int(vol), int(at)})
		}
		if t.Failed() {
			t.Fatalf("%x", s)
		}
	}
	if seen[api.OK] < 1000 || seen[api.ErrForm] < 1000 || seen[api.ErrBig] < 1000 {
		t.Errorf("errors: %v", seen)
	}
}
