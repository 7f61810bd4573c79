package term_test

import (
	"fmt"
	"math/rand"
	"slices"
	"strings"
	"testing"

	"glacier/api"
	"glacier/platter"
	"glacier/term"
)

// change is a call that stores something. Its parts are what may be stored if it does not return OK, from nothing to everything; the log in them is not yet held against the snapshot.
type change struct {
	what  string
	do    func(d *platter.Disk) api.Errno
	parts func(s term.State) []term.State
}

func saveTerm(at, vote int) change {
	return change{
		fmt.Sprint("SaveTerm ", at, ", ", vote),
		func(d *platter.Disk) api.Errno { return term.SaveTerm(d, at, vote) },
		func(s term.State) []term.State {
			before := s
			s.Term, s.Vote = at, vote
			return []term.State{before, s}
		},
	}
}

// logs returns s with its log replaced by some entries and each prefix of others, up to all of them.
func logs(s term.State, keep, l []term.Entry) []term.State {
	var parts []term.State
	for n := range len(l) + 1 {
		s.Log = slices.Concat(keep, l[:n])
		parts = append(parts, s)
	}
	return parts
}

func add(l ...term.Entry) change {
	return change{
		"Append" + entries(l),
		func(d *platter.Disk) api.Errno { return term.Append(d, l...) },
		func(s term.State) []term.State { return logs(s, s.Log, l) },
	}
}

func rewrite(l ...term.Entry) change {
	return change{
		"Rewrite" + entries(l),
		func(d *platter.Disk) api.Errno { return term.Rewrite(d, l...) },
		func(s term.State) []term.State { return append([]term.State{s}, logs(s, nil, l)...) },
	}
}

func saveSnap(base, at int, snap string, rest ...term.Entry) change {
	return change{
		fmt.Sprintf("SaveSnap %d, %d, %q%s", base, at, snap, entries(rest)),
		func(d *platter.Disk) api.Errno { return term.SaveSnap(d, base, at, snap, rest...) },
		func(s term.State) []term.State {
			before := s
			s.Base, s.BaseTerm, s.Snap = base, at, snap
			return append([]term.State{before, s}, logs(s, nil, rest)...)
		},
	}
}

// loaded is what Load finds of a state that is stored: of the log, what follows the snapshot.
func loaded(s term.State) string {
	last := s.Base
	var l []term.Entry
	for _, x := range s.Log {
		if x.Index == last+1 {
			l = append(l, x)
			last++
		}
	}
	s.Log = l
	return tell(s)
}

// all returns the last of the parts: everything.
func (c change) all(s term.State) term.State {
	l := c.parts(s)
	return l[len(l)-1]
}

func entry(index, at int) term.Entry {
	return term.Entry{index, at, fmt.Sprint("c", index, ".", at)}
}

// P9.2: wherever a call is interrupted, and whatever the crash keeps, Load returns what was stored before; and of the call nothing, everything or what it may.
func TestInterrupted(t *testing.T) {
	one, two, three, four := entry(1, 1), entry(2, 1), entry(3, 2), entry(4, 2)
	befores := [][]change{
		{},
		{saveTerm(1, 1)},
		{add(one, two)},
		{saveTerm(1, 1), add(one), add(two, three)},
		{rewrite(entry(1, 3), entry(2, 3))},
		{saveTerm(2, 0), add(one, two, three), saveSnap(2, 1, "snapshot", three)},
		{saveSnap(2, 1, "snapshot"), add(three)},
		{add(one, two, three, four), rewrite()},
	}
	calls := []change{
		saveTerm(1, 2), saveTerm(2, 1), saveTerm(300, 0), saveTerm(0, 0),
		add(), add(one), add(three), add(three, four), add(one, two, three, four),
		rewrite(), rewrite(one), rewrite(one, two), rewrite(one, two, three, four), rewrite(entry(1, 9), entry(2, 9)), rewrite(three, entry(4, 9)),
		saveSnap(1, 1, "s", two), saveSnap(2, 1, ""), saveSnap(2, 1, "snapshot"), saveSnap(2, 1, "snapshots", three, four),
		saveSnap(3, 2, "snap"), saveSnap(3, 9, "other", four), saveSnap(9, 9, strings.Repeat("s", 50)), saveSnap(0, 0, "", one, two),
	}
	found := map[int]int{} // how often which part of several
	for _, before := range befores {
		for _, c := range calls {
			for n := range 5 {
				for choice := range 60 {
					d := platter.New(10000)
					var s term.State
					for _, b := range before {
						must(t, b.do(d))
						s = b.all(s)
					}
					d.Fail(n)
					e := c.do(d)
					d.Crash([]int{choice, choice})
					d.Fail(-1)
					what := fmt.Sprintf("%s, then %s failing at call %d, Crash %d", loaded(s), c.what, n, choice)
					part := wantPart(t, what, d, s, c, e)
					found[part]++
					if t.Failed() {
						t.FailNow()
					}
				}
			}
		}
	}
	for part := range 5 {
		if found[part] == 0 {
			t.Errorf("part %d was never found: %v", part, found)
		}
	}
}

// wantPart compares what Load finds, twice, with the parts of a call, and returns which one it is; it is everything if the call returned OK.
func wantPart(t *testing.T, what string, d *platter.Disk, before term.State, c change, e api.Errno) int {
	t.Helper()
	s, errno := term.Load(d)
	want(t, what, errno, api.OK)
	wantState(t, what+", loaded again", d, tell(s))
	want(t, what+", loaded again: Safe", d.Safe(), true)
	if e == api.OK {
		want(t, what, tell(s), loaded(c.all(before)))
		return -1
	}
	want(t, what, e, api.ErrIO)
	var l []string
	for _, p := range c.parts(before) {
		l = append(l, loaded(p))
	}
	part := slices.Index(l, tell(s))
	if part < 0 {
		t.Errorf("%s: %s is not one of %q", what, tell(s), l)
	}
	return part
}

// P9.2: a crash that keeps only some bytes of an Append keeps the entries that are whole, and later ones can be appended to them.
func TestPartOfAppend(t *testing.T) {
	l := []term.Entry{entry(2, 1), {3, 1, ""}, entry(4, 2)}
	var ends []int
	size := 0
	for _, x := range l {
		size += len(record(uint64(x.Index), uint64(x.Term), x.Cmd))
		ends = append(ends, size)
	}
	for n := range size + 1 {
		d := platter.New(1000)
		must(t, term.SaveTerm(d, 2, 1), term.Append(d, entry(1, 1)))
		d.Fail(1)
		want(t, "Append", term.Append(d, l...), api.ErrIO)
		d.Crash([]int{n})
		whole := 0
		for whole < len(ends) && ends[whole] <= n {
			whole++
		}
		kept := append([]term.Entry{entry(1, 1)}, l[:whole]...)
		wantState(t, fmt.Sprint(n, " bytes"), d, `2 1; 0 0 "";`+entries(kept))
		next := entry(whole+2, 3)
		must(t, term.Append(d, next))
		d.Crash(nil)
		wantState(t, fmt.Sprint(n, " bytes, Append"), d, `2 1; 0 0 "";`+entries(append(kept, next)))
	}
}

// P9.2: a Load that is interrupted while it removes bytes from log changes no entries.
func TestLoadInterrupted(t *testing.T) {
	for n := range 6 {
		for choice := range 40 {
			d := platter.New(1000)
			must(t, term.SaveTerm(d, 2, 1), term.SaveSnap(d, 1, 1, "s"), term.Append(d, entry(2, 2), entry(3, 2)))
			must(t, d.Append("log", record(4, 2, "torn")[:12]), d.Sync())
			d.Fail(n)
			_, e := term.Load(d)
			want(t, fmt.Sprint("Load failing at call ", n), e == api.OK, n == 5)
			d.Crash([]int{choice})
			d.Fail(-1)
			wantState(t, fmt.Sprint("Load failing at call ", n, ", Crash ", choice), d, `2 1; 1 1 "s";`+entries([]term.Entry{entry(2, 2), entry(3, 2)}))
		}
	}
}

// anyChange returns a call as a node might make it that has the state s.
func anyChange(r *rand.Rand, s term.State) change {
	last, at := s.Last()
	var l []term.Entry
	for n := range r.Intn(4) {
		at += r.Intn(2)
		l = append(l, term.Entry{last + 1 + n, at, strings.Repeat("c", r.Intn(20))})
	}
	switch r.Intn(5) {
	case 0:
		return saveTerm(s.Term+r.Intn(3)*r.Intn(100), r.Intn(api.MaxNodes+1))
	case 1:
		n := r.Intn(len(s.Log) + 1)
		keep := slices.Clone(s.Log[:n])
		for i := range l {
			l[i].Index = s.Base + n + i + 1
		}
		return rewrite(append(keep, l...)...)
	case 2:
		base := s.Base + r.Intn(len(s.Log)+3)
		at, is := s.TermAt(base)
		if !is || r.Intn(4) == 0 {
			return saveSnap(base, at+1, strings.Repeat("i", r.Intn(40)))
		}
		return saveSnap(base, at, strings.Repeat("s", r.Intn(40)), s.From(base+1, len(s.Log))...)
	}
	return add(l...)
}

// model is what may be on a disk. There are several states only where a call was interrupted, and Load has not told yet, or can't tell.
type model struct {
	states []term.State
}

// step makes a call, which the disk may fail.
func (m *model) step(d *platter.Disk, c change) api.Errno {
	e := c.do(d)
	var l []term.State
	for _, s := range m.states {
		if e == api.OK {
			l = append(l, c.all(s))
		} else {
			l = append(l, c.parts(s)...)
		}
	}
	m.states = l
	return e
}

// load compares what Load finds with the states, and returns it.
func (m *model) load(t *testing.T, what string, d *platter.Disk) term.State {
	t.Helper()
	s, e := term.Load(d)
	want(t, what, e, api.OK)
	var l []term.State
	for _, x := range m.states {
		same := func(y term.State) bool { return tell(x) == tell(y) }
		if loaded(x) == tell(s) && !slices.ContainsFunc(l, same) {
			l = append(l, x)
		}
	}
	if len(l) == 0 {
		t.Fatalf("%s: Load: %s is none of %v", what, tell(s), m.states)
	}
	m.states = l
	return s
}

// P9.1, P9.2: whatever the calls, faults and crashes are, Load returns what was stored.
func TestAgainstModel(t *testing.T) {
	errs := map[api.Errno]int{}
	for seed := range int64(2000) {
		r := rand.New(rand.NewSource(seed))
		d := platter.New([]int{100, 200, 400, 2000}[r.Intn(4)])
		m := &model{states: []term.State{{}}}
		var s term.State
		var steps []string
		for range 50 {
			if r.Intn(6) == 0 {
				d.Fail(r.Intn(6))
			}
			c := anyChange(r, s)
			e := m.step(d, c)
			errs[e]++
			steps = append(steps, fmt.Sprint(c.what, " (", e, ")"))
			what := fmt.Sprintf("seed %d: %s", seed, strings.Join(steps, "; "))
			if e != api.OK && e != api.ErrFull && e != api.ErrIO {
				t.Fatal(what)
			}
			if e != api.ErrIO && !d.Safe() {
				t.Fatal(what + ": not safe")
			}
			if e == api.ErrIO || r.Intn(4) == 0 {
				d.Crash([]int{r.Intn(100), r.Intn(100)})
				if _, e := term.Load(d); e == api.ErrIO { // if it is still armed
					d.Crash([]int{r.Intn(100)})
				}
				steps = append(steps, "Crash")
			}
			d.Fail(-1)
			s = m.load(t, what, d)
			if t.Failed() {
				t.FailNow()
			}
		}
	}
	for _, e := range []api.Errno{api.OK, api.ErrFull, api.ErrIO} {
		if errs[e] < 1000 {
			t.Errorf("error %d: only %d times", e, errs[e])
		}
	}
}
