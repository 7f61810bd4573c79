package raft_test

import (
	"fmt"
	"math"
	"slices"
	"strings"
	"testing"

	"glacier/api"
	"glacier/raft"
	"glacier/term"
)

// leader returns node 0 of n, which leads in term 5 with entries of earlier terms up to 5 and its own entry 6; it has taken what it sent.
func leader(t *testing.T, n int) *raft.Node {
	t.Helper()
	r, _ := open(t, 0, n, term.State{Term: 4, Log: log(1, 1, 2, 2, 3, 4)})
	lead(t, r, 0, n)
	want(t, "leader", tellNode(r), "leader t5 of 0, 0 0 6")
	return r
}

func have(r *raft.Node, from, index int, ok bool) {
	r.Step(raft.Msg{Kind: raft.Have, From: from, To: 0, Term: 5, Index: index, OK: ok})
}

// P10.1: the commit index advances to the last entry that more than half of the nodes have, the leader among them.
func TestAdvance(t *testing.T) {
	for n := 2; n <= 5; n++ {
		r := leader(t, n)
		for i := 7; i < 10; i++ {
			_, _, e := r.Propose(fmt.Sprint("c", i))
			must(t, e)
		}
		for from := 1; from < n; from++ {
			have(r, from, 9, true)
			commit := 0
			if 2*(from+1) > n {
				commit = 9
			}
			want(t, fmt.Sprintf("%d nodes of %d", from+1, n), r.Commit(), commit)
		}
	}
	r := leader(t, 5)
	for i := 7; i < 10; i++ {
		r.Propose("c")
	}
	for _, c := range []struct{ from, index, commit int }{
		{1, 6, 0}, {2, 8, 6}, {3, 7, 7}, {4, 9, 8}, {1, 9, 9}, {1, 3, 9}, {2, 9, 9},
	} {
		have(r, c.from, c.index, true)
		want(t, fmt.Sprintf("node %d has %d", c.from, c.index), r.Commit(), c.commit)
	}
}

// P10.1: an entry of an earlier term is committed only together with one of the leader's own term.
func TestAdvanceOwnTerm(t *testing.T) {
	r := leader(t, 3)
	for index := range 6 {
		have(r, 1, index, true)
		have(r, 2, index, true)
		want(t, fmt.Sprint("all have ", index), r.Commit(), 0)
	}
	have(r, 1, 6, true)
	want(t, "own entry", r.Commit(), 6)
	_, _, l := r.Fresh()
	want(t, "Fresh", len(l), 6)
}

// P10.1: entries of the own term are not committed with one of another term after them, which only messages that no node sent can bring about.
func TestAdvanceBetween(t *testing.T) {
	r, _ := open(t, 0, 3, term.State{Term: 4, Log: log(1, 1, 5, 7)})
	lead(t, r, 0, 3)
	have(r, 1, 2, true)
	want(t, "another term after it", r.Commit(), 0)
	have(r, 1, 3, true)
	want(t, "another term", r.Commit(), 0)
	have(r, 1, 4, true)
	want(t, "the last one", r.Commit(), 4)
	r, _ = open(t, 0, 3, term.State{Term: 4, Log: log(1, 1, 5, 5)})
	lead(t, r, 0, 3)
	have(r, 1, 2, true)
	want(t, "own term, of before", r.Commit(), 2)
}

// P10.1: More has the number and term of the entry before next, and at most 4 entries from next on; if that entry is not known, Install has the snapshot; both have the commit index.
func TestSupply(t *testing.T) {
	r, _ := open(t, 0, 2, term.State{Term: 4, Base: 3, BaseTerm: 2, Snap: "s", Log: log(4, 2, 3, 3, 4, 4, 4)})
	lead(t, r, 0, 2)
	want(t, "leader", tellNode(r), "leader t5 of 0, 3 3 10")
	for next := 9; next > 3; next-- {
		have(r, 1, next-1, false)
		l := append(log(4, 2, 3, 3, 4, 4, 4), term.Entry{Index: 10, Term: 5})[next-4:]
		at := []int{2, 2, 3, 3, 4, 4}[next-4]
		wantSent(t, fmt.Sprint("next ", next), r, fmt.Sprintf("More 0>1 t5 %d/%d c3 [%s]", next-1, at, entries(l[:min(4, len(l))])[1:]))
	}
	for range 5 {
		have(r, 1, 2, false)
		wantSent(t, "before the snapshot", r, `Install 0>1 t5 3/2 c3 "s"`)
	}
	r.Tick()
	wantSent(t, "tick", r, `Install 0>1 t5 3/2 c3 "s"`)
	_, _, e := r.Propose("a")
	must(t, e)
	wantSent(t, "Propose", r, `Install 0>1 t5 3/2 c3 "s"`)
	have(r, 1, 3, true)
	wantSent(t, "has the snapshot", r, `More 0>1 t5 3/2 c3 [4/2 "c4" 5/3 "c5" 6/3 "c6" 7/4 "c7"]`)
}

// P10.1: Have, no: next becomes the smaller one of the reported number plus 1 and its previous value minus 1, but at least match + 1, and the leader sends on.
func TestHaveNo(t *testing.T) {
	r := leader(t, 2)
	no := func(index, next int) {
		t.Helper()
		have(r, 1, index, false)
		l := r.Take()
		if len(l) != 1 || l[0].Kind != raft.More || l[0].Index != next-1 {
			t.Errorf("no %d: %+v, want next %d", index, l, next)
		}
	}
	no(math.MaxInt, 5)
	no(5, 4)
	no(1, 2)
	no(3, 1)
	no(3, 1)
	no(0, 1)
	have(r, 1, 4, true)
	wantSent(t, "yes", r, `More 0>1 t5 4/3 [5/4 "c5" 6/5 ""]`)
	no(9, 5)
	no(0, 5)
	want(t, "Commit", r.Commit(), 0)
	have(r, 1, 6, true)
	wantSent(t, "yes, everything", r)
	no(2, 7)
	want(t, "Commit", r.Commit(), 6)
}

// P10.1: Have, yes: match and next grow, and never shrink; the leader sends on if the node lacks entries and answered the latest message.
func TestHaveYes(t *testing.T) {
	r := leader(t, 3)
	have(r, 1, 0, false)
	wantSent(t, "no", r, `More 0>1 t5 [1/1 "c1" 2/2 "c2" 3/2 "c3" 4/3 "c4"]`)
	have(r, 1, 0, true)
	wantSent(t, "yes to a message without entries", r, `More 0>1 t5 [1/1 "c1" 2/2 "c2" 3/2 "c3" 4/3 "c4"]`)
	have(r, 1, 4, true)
	wantSent(t, "yes", r, `More 0>1 t5 4/3 [5/4 "c5" 6/5 ""]`)
	have(r, 1, 4, true)
	wantSent(t, "twice", r, `More 0>1 t5 4/3 [5/4 "c5" 6/5 ""]`)
	for index := range 4 {
		have(r, 1, index, true)
		wantSent(t, "an old answer", r)
	}
	r.Tick()
	wantSent(t, "tick", r, `More 0>1 t5 4/3 [5/4 "c5" 6/5 ""]`, `More 0>2 t5 5/4 [6/5 ""]`)
	for _, index := range []int{7, 8, math.MaxInt} {
		have(r, 1, index, true)
		wantSent(t, "more than the leader has", r)
	}
	want(t, "more than the leader has", r.Commit(), 0)
	have(r, 1, 6, true)
	wantSent(t, "everything", r)
	want(t, "everything", r.Commit(), 6)
	_, _, e := r.Propose("a")
	must(t, e)
	r.Take()
	have(r, 1, 6, true)
	wantSent(t, "after Propose, the commit index", r, `More 0>1 t5 6/5 c6 [7/5 "a"]`)
	have(r, 1, 7, true)
	have(r, 2, 5, true)
	wantSent(t, "the new commit index", r, `More 0>2 t5 5/4 c7 [6/5 "" 7/5 "a"]`)
}

// P10.1: Have of another term, or at a node that is not the leader, has no effect on what is sent and committed.
func TestHaveElsewhere(t *testing.T) {
	r := leader(t, 2)
	for at := range 5 {
		r.Step(raft.Msg{Kind: raft.Have, From: 1, To: 0, Term: at, Index: 6, OK: true})
		r.Step(raft.Msg{Kind: raft.Have, From: 1, To: 0, Term: at})
	}
	wantSent(t, "earlier terms", r)
	want(t, "earlier terms", tellNode(r), "leader t5 of 0, 0 0 6")
	r.Tick()
	wantSent(t, "tick", r, `More 0>1 t5 5/4 [6/5 ""]`)
	r.Step(raft.Msg{Kind: raft.Have, From: 1, To: 0, Term: 6, Index: 6, OK: true})
	want(t, "later term", tellNode(r), "follower t6 of -1, 0 0 6")
	r.Step(raft.Msg{Kind: raft.Have, From: 1, To: 0, Term: 6, Index: 6, OK: true})
	r.Step(raft.Msg{Kind: raft.Have, From: 1, To: 0, Term: 6})
	stand(r, 0)
	r.Step(raft.Msg{Kind: raft.Have, From: 1, To: 0, Term: 7, Index: 6, OK: true})
	r.Step(raft.Msg{Kind: raft.Have, From: 1, To: 0, Term: 7})
	wantSent(t, "no leader", r)
	want(t, "no leader", tellNode(r), "candidate t7 of -1, 0 0 6")
}

// P10.1: a node that leads again knows nothing of what the others had before.
func TestLeadsAgain(t *testing.T) {
	r := leader(t, 3)
	have(r, 1, 6, true)
	r.Step(raft.Msg{Kind: raft.Have, From: 1, To: 0, Term: 6})
	lead(t, r, 0, 3)
	want(t, "again", tellNode(r), "leader t7 of 0, 6 0 7")
	r.Step(raft.Msg{Kind: raft.Have, From: 1, To: 0, Term: 7})
	wantSent(t, "again", r, `More 0>1 t7 c6 [1/1 "c1" 2/2 "c2" 3/2 "c3" 4/3 "c4"]`)
}

// P10.1: Take returns each message once, in order.
func TestTake(t *testing.T) {
	r := leader(t, 2)
	r.Tick()
	have(r, 1, 3, false)
	_, _, e := r.Propose("a")
	must(t, e)
	wantSent(t, "Take", r, `More 0>1 t5 5/4 [6/5 ""]`, `More 0>1 t5 3/2 [4/3 "c4" 5/4 "c5" 6/5 ""]`, `More 0>1 t5 3/2 [4/3 "c4" 5/4 "c5" 6/5 "" 7/5 "a"]`)
	wantSent(t, "Take again", r)
}

// P10.1: Fresh hands out what is committed, once, in order; and the snapshot, if it covers what was not handed out.
func TestFresh(t *testing.T) {
	r, _ := open(t, 0, 2, term.State{Term: 4, Base: 1, BaseTerm: 1, Snap: "s"})
	fresh := func(what, result string) {
		t.Helper()
		snap, is, l := r.Fresh()
		want(t, what, fmt.Sprintf("%q %v%s", snap, is, entries(l)), result)
	}
	more := func(index, commit int, l ...term.Entry) {
		r.Step(raft.Msg{Kind: raft.More, From: 1, To: 0, Term: 4, Index: index, LogTerm: 1, Commit: commit, Entries: l})
	}
	fresh("at first", `"" false`)
	more(1, 1, log(2, 1, 1, 1)...)
	fresh("not committed", `"" false`)
	more(1, 3, log(2, 1, 1, 1)...)
	want(t, "Applied", r.Applied(), 1)
	fresh("committed", `"" false 2/1 "c2" 3/1 "c3"`)
	want(t, "Applied", r.Applied(), 3)
	fresh("again", `"" false`)
	more(4, 4)
	fresh("one more", `"" false 4/1 "c4"`)
	r.Step(raft.Msg{Kind: raft.Install, From: 1, To: 0, Term: 4, Index: 7, LogTerm: 1, Snap: "seven"})
	more(7, 9, log(8, 1, 1)...)
	want(t, "Applied", r.Applied(), 4)
	fresh("snapshot", `"seven" true`)
	want(t, "Applied", r.Applied(), 7)
	fresh("after the snapshot", `"" false 8/1 "c8" 9/1 "c9"`)
	more(9, 10, log(10, 1)...)
	r.Step(raft.Msg{Kind: raft.Install, From: 1, To: 0, Term: 4, Index: 10, LogTerm: 1, Snap: "old"})
	fresh("not covered by a snapshot", `"" false 10/1 "c10"`)
	r.Step(raft.Msg{Kind: raft.Install, From: 1, To: 0, Term: 4, Index: 11, LogTerm: 1})
	fresh("snapshot without bytes", `"" true`)
	fresh("again", `"" false`)
	want(t, "at last", tellNode(r), "follower t4 of 1, 11 11 11")
}

// P10.1: Compact returns the error that broke the node, ErrBig, ErrNone, in this order; or the snapshot covers what was handed out, and those entries are removed.
func TestCompact(t *testing.T) {
	big := strings.Repeat("b", term.MaxSnap+1)
	r, d := open(t, 0, 2, term.State{Term: 4, Base: 1, BaseTerm: 1, Snap: "s", Log: log(2, 1, 1, 2, 2)})
	want(t, "nothing handed out", r.Compact("x"), api.ErrNone)
	want(t, "nothing handed out, big", r.Compact(big), api.ErrBig)
	r.Step(raft.Msg{Kind: raft.More, From: 1, To: 0, Term: 4, Index: 4, LogTerm: 2, Commit: 4})
	want(t, "nothing handed out", r.Compact("x"), api.ErrNone)
	want(t, "nothing handed out", tellState(r.State()), `4 0; 1 1 "s"; 2/1 "c2" 3/1 "c3" 4/2 "c4" 5/2 "c5"`)
	r.Fresh()
	want(t, "big", r.Compact(big), api.ErrBig)
	want(t, "Compact", r.Compact("four"), api.OK)
	wantStored(t, "Compact", r, d, `4 0; 4 2 "four"; 5/2 "c5"`)
	want(t, "Compact", tellNode(r), "follower t4 of 1, 4 4 5")
	want(t, "again", r.Compact("x"), api.ErrNone)
	_, is, l := r.Fresh()
	want(t, "Fresh", fmt.Sprint(is, len(l)), "false 0")
	r.Step(raft.Msg{Kind: raft.Install, From: 1, To: 0, Term: 4, Index: 7, LogTerm: 2, Snap: "seven"})
	want(t, "snapshot not handed out", r.Compact("x"), api.ErrNone)
	r.Fresh()
	want(t, "snapshot handed out", r.Compact("x"), api.ErrNone)
	wantStored(t, "snapshot", r, d, `4 0; 7 2 "seven";`)
	r.Step(raft.Msg{Kind: raft.More, From: 1, To: 0, Term: 4, Index: 7, LogTerm: 2, Commit: 9, Entries: log(8, 2, 3)})
	r.Fresh()
	want(t, "as big as may be", r.Compact(big[1:]), api.OK)
	wantStored(t, "everything", r, d, fmt.Sprintf(`4 0; 9 3 %q;`, big[1:]))
	r.Step(raft.Msg{Kind: raft.More, From: 1, To: 0, Term: 4, Index: 9, LogTerm: 3, Commit: 10, Entries: log(10, 3)})
	r.Fresh()
	d.Fail(0)
	want(t, "failing", r.Compact("x"), api.ErrIO)
	want(t, "broken, big", r.Compact(big), api.ErrIO)
}

// P10.1: a leader that has removed entries sends the snapshot instead, and goes on after it.
func TestCompactLeader(t *testing.T) {
	r := leader(t, 3)
	have(r, 1, 6, true)
	r.Fresh()
	r.Propose("a")
	r.Take()
	must(t, r.Compact("six"))
	r.Tick()
	wantSent(t, "tick", r, `More 0>1 t5 6/5 c6 [7/5 "a"]`, `Install 0>2 t5 6/5 c6 "six"`)
	have(r, 2, 6, true)
	wantSent(t, "has it", r, `More 0>2 t5 6/5 c6 [7/5 "a"]`)
	have(r, 2, 7, true)
	want(t, "Commit", r.Commit(), 7)
}

// P10.1: an error at any call of the disk breaks the node: what it was about to send is not sent, what it says of itself is what it has stored, and it does nothing any more.
func TestBroken(t *testing.T) {
	ask := raft.Msg{Kind: raft.Ask, From: 1, To: 0, Term: 5, Index: 9, LogTerm: 9}
	for what, c := range map[string]struct {
		calls int // of the disk
		do    func(r *raft.Node)
		lead  bool
	}{
		"election":           {2, func(r *raft.Node) { ticks(r, 4) }, false},
		"Ask":                {2, func(r *raft.Node) { r.Step(ask) }, false},
		"Ask, later term":    {4, func(r *raft.Node) { ask := ask; ask.Term = 6; r.Step(ask) }, false},
		"later term":         {2, func(r *raft.Node) { r.Step(raft.Msg{From: 1, Term: 6}) }, false},
		"later term, leader": {2, func(r *raft.Node) { r.Step(raft.Msg{From: 1, Term: 6}) }, true},
		"new leader": {4, func(r *raft.Node) {
			ticks(r, 4)
			r.Step(raft.Msg{Kind: raft.Vote, From: 1, Term: 6, OK: true})
			r.Step(raft.Msg{Kind: raft.Vote, From: 2, Term: 6, OK: true})
		}, false},
		"Propose": {2, func(r *raft.Node) { r.Propose("a") }, true},
		"More": {2, func(r *raft.Node) {
			r.Step(raft.Msg{Kind: raft.More, From: 1, Term: 5, Index: 6, LogTerm: 5, Entries: log(7, 5)})
		}, false},
		"conflict": {2, func(r *raft.Node) { r.Step(raft.Msg{Kind: raft.More, From: 1, Term: 5, Entries: log(1, 5)}) }, false},
		"Install":  {4, func(r *raft.Node) { r.Step(raft.Msg{Kind: raft.Install, From: 1, Term: 5, Index: 9, LogTerm: 5}) }, false},
		"Compact":  {4, func(r *raft.Node) { r.Compact("s") }, true},
	} {
		for n := range c.calls + 1 {
			what := fmt.Sprintf("%s, failing at call %d", what, n)
			s := term.State{Term: 5, Log: log(1, 1, 2, 2, 3, 4, 5)}
			r, d := open(t, 0, 3, s)
			if c.lead {
				s.Term, s.Log = 4, s.Log[:5]
				r, d = open(t, 0, 3, s)
				lead(t, r, 0, 3)
				have(r, 1, 6, true)
				r.Fresh()
			}
			want(t, what+": Term", r.Term(), 5)
			d.Fail(n)
			c.do(r)
			d.Fail(-1)
			if n == c.calls {
				want(t, what, r.Broken(), api.OK)
				continue
			}
			want(t, what, r.Broken(), api.ErrIO)
			wantSent(t, what, r)
			dead(t, what, r)
			d.Crash(nil)
			if s, e := term.Load(d); s.Base == 0 { // of SaveSnap the snapshot alone may be stored
				must(t, e)
				want(t, what+": State", tellState(r.State()), tellState(s))
			}
		}
	}
}

// dead calls everything of a broken node.
func dead(t *testing.T, what string, r *raft.Node) {
	t.Helper()
	before := tellNode(r) + tellState(r.State())
	ticks(r, 20)
	for kind := range 7 {
		r.Step(raft.Msg{Kind: kind, From: 1, To: 0, Term: 99, Index: 99, LogTerm: 99, Commit: 99, OK: true, Entries: log(100, 99), Snap: "s"})
	}
	_, _, e := r.Propose("a")
	want(t, what+": Propose", e, api.ErrIO)
	want(t, what+": Compact", r.Compact("s"), api.ErrIO)
	snap, is, l := r.Fresh()
	want(t, what+": Fresh", fmt.Sprint(snap, is, entries(l)), "false")
	wantSent(t, what, r)
	want(t, what, tellNode(r)+tellState(r.State()), before)
	want(t, what, r.Broken(), api.ErrIO)
}

// P10.1: a full disk breaks a node like any other error; and so does a lost one, which still says what it was.
func TestBrokenByOtherErrors(t *testing.T) {
	r, d := open(t, 0, 1, term.State{Term: 4})
	lead(t, r, 0, 1)
	must(t, d.Take(d.Free()-20))
	_, _, e := r.Propose("a command that does not fit")
	want(t, "full", e, api.ErrFull)
	want(t, "full", r.Broken(), api.ErrFull)
	want(t, "full", tellNode(r), "leader t5 of 0, 1 0 1")
	r, d = open(t, 0, 2, term.State{Term: 4})
	d.Lose()
	r.Step(raft.Msg{Kind: raft.More, From: 1, To: 0, Term: 4})
	want(t, "nothing to store", r.Broken(), api.OK)
	wantSent(t, "nothing to store", r, "Have 0>1 t4 yes")
	r.Step(raft.Msg{Kind: raft.More, From: 1, To: 0, Term: 5})
	want(t, "lost", r.Broken(), api.ErrLost)
	want(t, "lost", tellNode(r), "follower t4 of 1, 0 0 0")
	wantSent(t, "lost", r)
}

// P10.1: what a node was about to send when it broke is not sent, even what an earlier call prepared.
func TestBrokenBeforeTake(t *testing.T) {
	r, d := open(t, 0, 2, term.State{})
	lead(t, r, 0, 2)
	r.Tick()
	d.Fail(0)
	r.Propose("a")
	wantSent(t, "broken", r)
}

// P10.1, K3: a node neither changes nor keeps the entries of a message, and what it returns is new memory.
func TestMemory(t *testing.T) {
	r, d := open(t, 0, 2, term.State{Term: 4})
	l := log(1, 1, 2, 3, 4, 4)
	kept := slices.Clone(l)
	m := raft.Msg{Kind: raft.More, From: 1, To: 0, Term: 4, Commit: 3, Entries: l[:3]}
	r.Step(m)
	m = raft.Msg{Kind: raft.More, From: 1, To: 0, Term: 4, Index: 1, LogTerm: 1, Commit: 3, Entries: log(2, 2, 4)}
	r.Step(m)
	want(t, "arguments", entries(l), entries(kept))
	want(t, "arguments", entries(m.Entries), ` 2/2 "c2" 3/4 "c3"`)
	const state = `4 0; 0 0 ""; 1/1 "c1" 2/2 "c2" 3/4 "c3"`
	spoil := func(l []term.Entry) {
		for i := range l {
			l[i] = term.Entry{Index: 77, Term: 77, Cmd: "spoilt"}
		}
		for _, x := range l[len(l):cap(l)] {
			want(t, "spare capacity", x, term.Entry{})
		}
		_ = append(l, term.Entry{Index: 77, Term: 77, Cmd: "spoilt"})
	}
	spoil(l)
	spoil(m.Entries)
	wantStored(t, "Step", r, d, state)
	spoil(r.State().Log)
	wantStored(t, "State", r, d, state)
	_, _, fresh := r.Fresh()
	spoil(fresh)
	wantStored(t, "Fresh", r, d, state)
	lead(t, r, 0, 2)
	have(r, 1, 0, false)
	r.Tick()
	sent := r.Take()
	spoil(sent[0].Entries)
	want(t, "another message", entries(sent[1].Entries), ` 1/1 "c1" 2/2 "c2" 3/4 "c3" 4/5 ""`)
	wantStored(t, "Take", r, d, `5 1; 0 0 ""; 1/1 "c1" 2/2 "c2" 3/4 "c3" 4/5 ""`)
	want(t, "messages", len(sent), 2)
}
