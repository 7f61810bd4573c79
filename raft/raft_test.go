package raft_test

import (
	"fmt"
	"slices"
	"strings"
	"testing"

	"glacier/api"
	"glacier/platter"
	"glacier/raft"
	"glacier/term"
)

func want[T comparable](t *testing.T, what string, got, want T) {
	t.Helper()
	if got != want {
		t.Errorf("%s: %v, want %v", what, got, want)
	}
}

// must ends the test if a call that prepares it fails.
func must(t *testing.T, l ...api.Errno) {
	t.Helper()
	for i, e := range l {
		if e != api.OK {
			t.Fatalf("call %d: %d", i, e)
		}
	}
}

func entries(l []term.Entry) string {
	var b strings.Builder
	for _, x := range l {
		fmt.Fprintf(&b, " %d/%d %q", x.Index, x.Term, x.Cmd)
	}
	return b.String()
}

// tellState is a state as text: term, vote; Base, its term, the snapshot; the entries.
func tellState(s term.State) string {
	return fmt.Sprintf("%d %d; %d %d %q;%s", s.Term, s.Vote, s.Base, s.BaseTerm, s.Snap, entries(s.Log))
}

// tellMsg is a message as text, with each field that is not zero.
func tellMsg(m raft.Msg) string {
	var b strings.Builder
	kind := []string{"None", "Ask", "Vote", "More", "Have", "Install"}[m.Kind]
	fmt.Fprintf(&b, "%s %d>%d t%d", kind, m.From, m.To, m.Term)
	if m.Index != 0 || m.LogTerm != 0 {
		fmt.Fprintf(&b, " %d/%d", m.Index, m.LogTerm)
	}
	if m.Commit != 0 {
		fmt.Fprintf(&b, " c%d", m.Commit)
	}
	if m.OK {
		b.WriteString(" yes")
	}
	if len(m.Entries) > 0 {
		fmt.Fprintf(&b, " [%s]", entries(m.Entries)[1:])
	}
	if m.Snap != "" {
		fmt.Fprintf(&b, " %q", m.Snap)
	}
	return b.String()
}

// tellNode is what a node says of itself: its role, its term, the leader, the commit index, the applied index, the last entry.
func tellNode(r *raft.Node) string {
	role := []string{"follower", "candidate", "leader"}[r.Role()]
	return fmt.Sprintf("%s t%d of %d, %d %d %d", role, r.Term(), r.Leader(), r.Commit(), r.Applied(), r.Last())
}

// wantSent compares the messages that a node sends with texts.
func wantSent(t *testing.T, what string, r *raft.Node, l ...string) {
	t.Helper()
	var got []string
	for _, m := range r.Take() {
		got = append(got, tellMsg(m))
	}
	if !slices.Equal(got, l) {
		t.Errorf("%s: sends %q, want %q", what, got, l)
	}
}

// wantStored compares the state of a node, and what a crash would leave of it on its disk, with a state.
func wantStored(t *testing.T, what string, r *raft.Node, d *platter.Disk, state string) {
	t.Helper()
	want(t, what+": State", tellState(r.State()), state)
	want(t, what+": Safe", d.Safe(), true)
	s, e := term.Load(d)
	must(t, e)
	want(t, what+": Load", tellState(s), state)
}

// log returns entries of these terms, from a number on. Their commands are "c" and the number.
func log(from int, terms ...int) []term.Entry {
	var l []term.Entry
	for i, at := range terms {
		l = append(l, term.Entry{Index: from + i, Term: at, Cmd: fmt.Sprint("c", from+i)})
	}
	return l
}

// open returns a node whose disk has a state.
func open(t *testing.T, id, n int, s term.State) (*raft.Node, *platter.Disk) {
	t.Helper()
	d := platter.New(1 << 22)
	must(t, term.SaveTerm(d, s.Term, s.Vote), term.SaveSnap(d, s.Base, s.BaseTerm, s.Snap, s.Log...))
	r, e := raft.Open(d, id, n)
	must(t, e)
	return r, d
}

func ticks(r *raft.Node, n int) {
	for range n {
		r.Tick()
	}
}

// stand makes a node a candidate, and takes what it sends.
func stand(r *raft.Node, id int) {
	ticks(r, 4+2*id)
	r.Take()
}

// lead makes a node of n the leader of the next term, and takes what it sends.
func lead(t *testing.T, r *raft.Node, id, n int) {
	t.Helper()
	stand(r, id)
	for from := range n {
		r.Step(raft.Msg{Kind: raft.Vote, From: from, To: id, Term: r.Term(), OK: true})
	}
	r.Take()
	want(t, "Role of the leader", r.Role(), raft.Leader)
}

// P10.1: a single node leads at its fourth tick, and its first entry, which has no bytes, is committed (example 1).
func TestExample(t *testing.T) {
	r, d := open(t, 0, 1, term.State{})
	ticks(r, 3)
	want(t, "3 ticks", tellNode(r), "follower t0 of -1, 0 0 0")
	r.Tick()
	want(t, "4 ticks", tellNode(r), "leader t1 of 0, 1 0 1")
	wantStored(t, "4 ticks", r, d, `1 1; 0 0 ""; 1/1 ""`)
	index, at, e := r.Propose("a")
	want(t, "Propose", fmt.Sprint(index, at, e), "2 1 0")
	wantStored(t, "Propose", r, d, `1 1; 0 0 ""; 1/1 "" 2/1 "a"`)
	_, _, l := r.Fresh()
	want(t, "Fresh", entries(l), ` 1/1 "" 2/1 "a"`)
	want(t, "Fresh", tellNode(r), "leader t1 of 0, 2 2 2")
	wantSent(t, "a single node", r)
}

// P10.1: Open takes 1 to 5 nodes, numbered from 0 on; ErrArg comes before what is wrong with the disk.
func TestOpenArguments(t *testing.T) {
	lost := platter.New(100)
	lost.Lose()
	for n := -1; n < 8; n++ {
		for id := -2; id < 8; id++ {
			bad := n < 1 || n > 5 || id < 0 || id >= n
			what := fmt.Sprintf("node %d of %d", id, n)
			r, e := raft.Open(platter.New(100), id, n)
			want(t, what+": nil", r == nil, bad)
			if bad {
				want(t, what, e, api.ErrArg)
				_, e = raft.Open(lost, id, n)
				want(t, what+", lost disk", e, api.ErrArg)
				continue
			}
			want(t, what, e, api.OK)
			want(t, what, tellNode(r), "follower t0 of -1, 0 0 0")
			r, e = raft.Open(lost, id, n)
			want(t, what+", lost disk", e, api.ErrLost)
			want(t, what+", lost disk: nil", r == nil, true)
		}
	}
}

// P10.1: Open returns Load's error, or a follower with what is on the disk, which knows of no leader; up to Base everything is committed and handed out.
func TestOpen(t *testing.T) {
	s := term.State{Term: 7, Vote: 2, Base: 3, BaseTerm: 4, Snap: "s", Log: log(4, 4, 7)}
	r, d := open(t, 2, 3, s)
	want(t, "Open", tellNode(r), "follower t7 of -1, 3 3 5")
	wantStored(t, "Open", r, d, tellState(s))
	want(t, "Broken", r.Broken(), api.OK)
	wantSent(t, "Open", r)
	snap, is, l := r.Fresh()
	want(t, "Fresh", fmt.Sprintf("%q %v%s", snap, is, entries(l)), `"" false`)
	d.Fail(0)
	r, e := raft.Open(d, 2, 3)
	want(t, "failing disk", e, api.ErrIO)
	want(t, "failing disk: nil", r == nil, true)
	d.Spoil("term", 9, 1)
	r, e = raft.Open(d, 2, 3)
	want(t, "spoilt", e, api.ErrSum)
	want(t, "spoilt: nil", r == nil, true)
}

// P10.1: a node that hears of no leader starts an election at tick 4 + 2 times its number, and again after as many: the next term is stored with a vote for itself, and it asks all others.
func TestElection(t *testing.T) {
	for id := range 5 {
		r, d := open(t, id, 5, term.State{Term: 7, Vote: 3, Base: 3, BaseTerm: 4, Snap: "s", Log: log(4, 4, 6)})
		for round := range 3 {
			what := fmt.Sprintf("node %d, election %d", id, round)
			before := tellNode(r)
			ticks(r, 3+2*id)
			want(t, what+", before", tellNode(r), before)
			wantSent(t, what+", before", r)
			r.Tick()
			at := 8 + round
			want(t, what, tellNode(r), fmt.Sprintf("candidate t%d of -1, 3 3 5", at))
			wantStored(t, what, r, d, fmt.Sprintf(`%d %d; 3 4 "s"; 4/4 "c4" 5/6 "c5"`, at, id+1))
			var l []string
			for to := range 5 {
				if to != id {
					l = append(l, fmt.Sprintf("Ask %d>%d t%d 5/6", id, to, at))
				}
			}
			wantSent(t, what, r, l...)
		}
	}
}

// P10.1: without entries, Ask names the last entry of the snapshot.
func TestAskOfSnapshot(t *testing.T) {
	r, _ := open(t, 0, 2, term.State{Term: 5, Base: 8, BaseTerm: 4, Snap: "s"})
	ticks(r, 4)
	wantSent(t, "ask", r, "Ask 0>1 t6 8/4")
}

// P10.1: the votes of more than half of the nodes make a candidate the leader; a vote that comes twice counts once.
func TestMajority(t *testing.T) {
	for n := 1; n <= 5; n++ {
		r, _ := open(t, 0, n, term.State{})
		stand(r, 0)
		for from := 1; from < n; from++ {
			want(t, fmt.Sprintf("%d votes of %d", from, n), r.Role() == raft.Leader, 2*from > n)
			for range 3 {
				r.Step(raft.Msg{Kind: raft.Vote, From: from, To: 0, Term: 1, OK: true})
			}
		}
		want(t, fmt.Sprintf("all votes of %d", n), r.Role(), raft.Leader)
		want(t, fmt.Sprintf("all votes of %d: one entry", n), r.Last(), 1)
	}
}

// P10.1: only a yes of the own term counts, at a candidate, in the election in which it was given.
func TestVotesThatDoNotCount(t *testing.T) {
	yes := raft.Msg{Kind: raft.Vote, From: 1, To: 0, Term: 4, OK: true}
	r, d := open(t, 0, 3, term.State{Term: 4})
	r.Step(yes)
	want(t, "at a follower", tellNode(r), "follower t4 of -1, 0 0 0")
	stand(r, 0)
	no := yes
	no.Term, no.OK = 5, false
	r.Step(no)
	want(t, "no", tellNode(r), "candidate t5 of -1, 0 0 0")
	r.Step(yes)
	want(t, "of an earlier term", tellNode(r), "candidate t5 of -1, 0 0 0")
	yes.Term, yes.From = 5, 2
	stand(r, 0)
	stand(r, 0)
	r.Step(yes)
	want(t, "of an earlier election", tellNode(r), "candidate t7 of -1, 0 0 0")
	yes.Term = 9
	r.Step(yes)
	want(t, "of a later term", tellNode(r), "follower t9 of -1, 0 0 0")
	wantStored(t, "of a later term", r, d, `9 0; 0 0 "";`)
	wantSent(t, "votes", r)
	lead(t, r, 0, 3)
	yes.Term = r.Term()
	r.Step(yes)
	want(t, "at the leader", tellNode(r), "leader t10 of 0, 0 0 1")
	wantSent(t, "at the leader", r)
	r, _ = open(t, 0, 5, term.State{})
	stand(r, 0)
	r.Step(raft.Msg{Kind: raft.Vote, From: 1, To: 0, Term: 1, OK: true})
	stand(r, 0)
	r.Step(raft.Msg{Kind: raft.Vote, From: 2, To: 0, Term: 2, OK: true})
	want(t, "votes of two elections", r.Role(), raft.Candidate)
	r.Step(raft.Msg{Kind: raft.Vote, From: 1, To: 0, Term: 2, OK: true})
	want(t, "votes of one election", r.Role(), raft.Leader)
}

// P10.1: the new leader takes it that the others have its log, of which it knows nothing for certain; it stores an entry without bytes, and sends it.
func TestNewLeader(t *testing.T) {
	r, d := open(t, 1, 3, term.State{Term: 4, Base: 2, BaseTerm: 3, Snap: "s", Log: log(3, 3, 4)})
	stand(r, 1)
	r.Step(raft.Msg{Kind: raft.Vote, From: 2, To: 1, Term: 5, OK: true})
	want(t, "leader", tellNode(r), "leader t5 of 1, 2 2 5")
	wantStored(t, "leader", r, d, `5 2; 2 3 "s"; 3/3 "c3" 4/4 "c4" 5/5 ""`)
	wantSent(t, "leader", r, `More 1>0 t5 4/4 c2 [5/5 ""]`, `More 1>2 t5 4/4 c2 [5/5 ""]`)
	// A no leads below everything but match, which is 0.
	r.Step(raft.Msg{Kind: raft.Have, From: 0, To: 1, Term: 5})
	wantSent(t, "nothing is certain", r, `Install 1>0 t5 2/3 c2 "s"`)
}

// P10.1: at a tick a leader sends to all others what they lack, if only that it leads; it does not start an election.
func TestLeaderTicks(t *testing.T) {
	r, _ := open(t, 0, 3, term.State{Term: 4, Log: log(1, 4)})
	lead(t, r, 0, 3)
	r.Step(raft.Msg{Kind: raft.Have, From: 2, To: 0, Term: 5, OK: true, Index: 2})
	for range 20 {
		r.Tick()
		wantSent(t, "tick", r, `More 0>1 t5 1/4 c2 [2/5 ""]`, `More 0>2 t5 2/5 c2`)
	}
	want(t, "ticks", tellNode(r), "leader t5 of 0, 2 0 2")
}

// P10.1: the ticks of a leader do not count for its timer.
func TestTimerOfLeader(t *testing.T) {
	for waited := range 4 {
		r, _ := open(t, 0, 3, term.State{})
		stand(r, 0)
		ticks(r, waited)
		r.Step(raft.Msg{Kind: raft.Vote, From: 1, To: 0, Term: 1, OK: true})
		ticks(r, 10)
		want(t, "leader", tellNode(r), "leader t1 of 0, 0 0 1")
		r.Step(raft.Msg{Kind: raft.Have, From: 1, To: 0, Term: 2})
		ticks(r, 3-waited)
		want(t, "too few ticks", tellNode(r), "follower t2 of -1, 0 0 1")
		r.Tick()
		want(t, "one more", tellNode(r), "candidate t3 of -1, 0 0 1")
	}
}

// P10.1: Propose returns an error with 0, 0: the one that broke the node, ErrLeader, ErrBig, in this order; it takes up to MaxCmd bytes.
func TestProposeErrors(t *testing.T) {
	big := strings.Repeat("b", term.MaxCmd+1)
	propose := func(what string, r *raft.Node, cmd, result string) {
		t.Helper()
		last := r.Last()
		index, at, e := r.Propose(cmd)
		want(t, what, fmt.Sprint(index, at, e), result)
		if e != api.OK {
			want(t, what+": Last", r.Last(), last)
			wantSent(t, what, r)
		}
	}
	r, d := open(t, 0, 2, term.State{})
	propose("at a follower", r, "a", "0 0 12")
	propose("big at a follower", r, big, "0 0 12")
	stand(r, 0)
	propose("at a candidate", r, "a", "0 0 12")
	lead(t, r, 0, 2)
	propose("big", r, big, "0 0 11")
	propose("as big as may be", r, big[1:], "2 2 0")
	propose("nothing", r, "", "3 2 0")
	r.Take()
	want(t, "Last", r.Last(), 3)
	d.Fail(1)
	propose("failing", r, "a", "0 0 8")
	propose("broken", r, "a", "0 0 8")
	propose("broken, big", r, big, "0 0 8")
	r, d = open(t, 0, 2, term.State{})
	d.Fail(0)
	ticks(r, 4)
	propose("broken follower", r, big, "0 0 8")
}

// P10.1: Propose stores the entry, sends to all others what they lack, and then advances the commit index.
func TestPropose(t *testing.T) {
	r, d := open(t, 0, 3, term.State{})
	lead(t, r, 0, 3)
	r.Step(raft.Msg{Kind: raft.Have, From: 1, To: 0, Term: 1, OK: true, Index: 1})
	want(t, "first entry", tellNode(r), "leader t1 of 0, 1 0 1")
	index, at, e := r.Propose("a")
	want(t, "Propose", fmt.Sprint(index, at, e), "2 1 0")
	wantStored(t, "Propose", r, d, `1 1; 0 0 ""; 1/1 "" 2/1 "a"`)
	wantSent(t, "Propose", r, `More 0>1 t1 1/1 c1 [2/1 "a"]`, `More 0>2 t1 c1 [1/1 "" 2/1 "a"]`)
	index, at, e = r.Propose("b")
	want(t, "Propose", fmt.Sprint(index, at, e), "3 1 0")
	wantStored(t, "Propose", r, d, `1 1; 0 0 ""; 1/1 "" 2/1 "a" 3/1 "b"`)
	wantSent(t, "Propose", r, `More 0>1 t1 1/1 c1 [2/1 "a" 3/1 "b"]`, `More 0>2 t1 c1 [1/1 "" 2/1 "a" 3/1 "b"]`)
	want(t, "Propose", tellNode(r), "leader t1 of 0, 1 0 3")
	r, _ = open(t, 0, 1, term.State{})
	lead(t, r, 0, 1)
	want(t, "a single node", tellNode(r), "leader t1 of 0, 1 0 1")
	r.Propose("a")
	want(t, "a single node", tellNode(r), "leader t1 of 0, 2 0 2")
}
