package raft_test

import (
	"fmt"
	"math"
	"testing"

	"glacier/api"
	"glacier/raft"
	"glacier/term"
)

// P10.1: a message that is not addressed to this node, or does not come from another one, is ignored, whatever its term is.
func TestIgnored(t *testing.T) {
	r, d := open(t, 1, 3, term.State{Term: 4})
	stored := tellState(r.State())
	for kind := range 7 {
		for from := -2; from < 7; from++ {
			for to := -2; to < 7; to++ {
				if to == 1 && (from == 0 || from == 2) {
					continue
				}
				r.Step(raft.Msg{Kind: kind, From: from, To: to, Term: 9, Index: 1, OK: true, Snap: "s"})
				what := fmt.Sprintf("kind %d from %d to %d", kind, from, to)
				want(t, what, tellNode(r), "follower t4 of -1, 0 0 0")
				wantSent(t, what, r)
			}
		}
	}
	wantStored(t, "ignored", r, d, stored)
}

// P10.1: a later term, of a message of any kind, is stored, without a vote, and the node becomes a follower that knows of no leader.
func TestLaterTerm(t *testing.T) {
	for _, kind := range []int{-1, 0, raft.Vote, raft.Have, 6, 99} {
		for _, role := range []int{raft.Follower, raft.Candidate, raft.Leader} {
			what := fmt.Sprintf("kind %d at role %d", kind, role)
			r, d := open(t, 0, 3, term.State{Term: 4, Vote: 1})
			r.Step(raft.Msg{Kind: raft.More, From: 2, To: 0, Term: 4})
			want(t, what, r.Leader(), 2)
			last := 0
			if role > raft.Follower {
				stand(r, 0)
			}
			if role == raft.Leader {
				lead(t, r, 0, 3)
				last = 1
			}
			r.Take()
			r.Step(raft.Msg{Kind: kind, From: 1, To: 0, Term: 9, OK: true, Index: 1, Entries: log(1, 1), Snap: "s"})
			want(t, what, tellNode(r), fmt.Sprintf("follower t9 of -1, 0 0 %d", last))
			want(t, what, r.State().Vote, 0)
			wantStored(t, what, r, d, tellState(r.State()))
			wantSent(t, what, r)
		}
	}
}

// P10.1: a message of an unknown kind, of a term that is not later, does nothing.
func TestUnknownKind(t *testing.T) {
	r, _ := open(t, 0, 3, term.State{Term: 4})
	for _, kind := range []int{-1, 0, 6} {
		for at := range 5 {
			r.Step(raft.Msg{Kind: kind, From: 1, To: 0, Term: at, Index: 3, OK: true, Entries: log(1, 1), Snap: "s"})
			want(t, "unknown kind", tellNode(r), "follower t4 of -1, 0 0 0")
			wantSent(t, "unknown kind", r)
		}
	}
}

// P10.1: Ask: yes only if the sender's last entry is of a later term than the own one, or of the same term with a number that is not smaller.
func TestAskLog(t *testing.T) {
	for _, s := range []term.State{
		{Term: 4, Log: log(1, 1, 2, 2, 3)},
		{Term: 4, Base: 4, BaseTerm: 3, Snap: "s"},
	} {
		for index := range 8 {
			for at := range 6 {
				r, _ := open(t, 0, 3, s)
				r.Step(raft.Msg{Kind: raft.Ask, From: 2, To: 0, Term: 4, Index: index, LogTerm: at})
				yes := at > 3 || at == 3 && index >= 4
				what := fmt.Sprintf("last entry %d/%d", index, at)
				want(t, what, tellNode(r), fmt.Sprintf("follower t4 of -1, %d %d 4", s.Base, s.Base))
				if yes {
					want(t, what, r.State().Vote, 3)
					wantSent(t, what, r, "Vote 0>2 t4 yes")
				} else {
					want(t, what, r.State().Vote, 0)
					wantSent(t, what, r, "Vote 0>2 t4")
				}
			}
		}
	}
}

// P10.1: Ask: no to an earlier term, and to another node than the one that was voted for in this term, also before a restart; yes again to the same. The vote is on the disk.
func TestAskVote(t *testing.T) {
	r, d := open(t, 0, 4, term.State{Term: 4})
	ask := func(what string, from, at int, answer, stored string) {
		t.Helper()
		r.Step(raft.Msg{Kind: raft.Ask, From: from, To: 0, Term: at})
		wantSent(t, what, r, answer)
		wantStored(t, what, r, d, stored+`; 0 0 "";`)
	}
	ask("earlier term", 1, 3, "Vote 0>1 t4", "4 0")
	ask("own term", 1, 4, "Vote 0>1 t4 yes", "4 2")
	ask("the same again", 1, 4, "Vote 0>1 t4 yes", "4 2")
	ask("another", 2, 4, "Vote 0>2 t4", "4 2")
	ask("the same, earlier term", 1, 3, "Vote 0>1 t4", "4 2")
	ask("another, later term", 2, 6, "Vote 0>2 t6 yes", "6 3")
	d.Crash(nil)
	var e api.Errno
	r, e = raft.Open(d, 0, 4)
	must(t, e)
	ask("another after a restart", 1, 6, "Vote 0>1 t6", "6 3")
	ask("the same after a restart", 2, 6, "Vote 0>2 t6 yes", "6 3")
	stand(r, 0)
	ask("at a candidate", 2, 7, "Vote 0>2 t7", "7 1")
	want(t, "at a candidate", r.Role(), raft.Candidate)
	ask("at a candidate, later term", 2, 8, "Vote 0>2 t8 yes", "8 3")
	want(t, "at a candidate, later term", tellNode(r), "follower t8 of -1, 0 0 0")
	stand(r, 0)
	r.Step(raft.Msg{Kind: raft.Vote, From: 1, To: 0, Term: 9, OK: true})
	r.Step(raft.Msg{Kind: raft.Vote, From: 2, To: 0, Term: 9, OK: true})
	r.Take()
	r.Step(raft.Msg{Kind: raft.Ask, From: 1, To: 0, Term: 9, Index: 9, LogTerm: 9})
	wantSent(t, "at the leader", r, "Vote 0>1 t9")
	r.Step(raft.Msg{Kind: raft.Ask, From: 1, To: 0, Term: 10})
	wantSent(t, "at the leader, later term, shorter log", r, "Vote 0>1 t10")
	want(t, "at the leader, later term, shorter log", tellNode(r), "follower t10 of -1, 0 0 1")
	want(t, "at the leader, later term, shorter log", r.State().Vote, 0)
}

// P10.1: Ask: a yes sets the timer to 0, and a no does not, even if the term is later.
func TestAskTimer(t *testing.T) {
	for _, c := range []struct {
		m    raft.Msg
		left int
	}{
		{raft.Msg{Kind: raft.Ask, Term: 4, Index: 1, LogTerm: 4}, 4},
		{raft.Msg{Kind: raft.Ask, Term: 5, Index: 1, LogTerm: 4}, 4},
		{raft.Msg{Kind: raft.Ask, Term: 3, Index: 1, LogTerm: 4}, 1},
		{raft.Msg{Kind: raft.Ask, Term: 5}, 1},
		{raft.Msg{Kind: raft.Vote, Term: 5}, 1},
		{raft.Msg{Kind: raft.Have, Term: 4}, 1},
		{raft.Msg{Kind: raft.More, Term: 3}, 1},
		{raft.Msg{Kind: raft.Install, Term: 3}, 1},
		{raft.Msg{Kind: raft.More, Term: 4}, 4},
		{raft.Msg{Kind: raft.More, Term: 4, Index: 9}, 4},
		{raft.Msg{Kind: raft.Install, Term: 4}, 4},
	} {
		r, _ := open(t, 0, 3, term.State{Term: 4, Log: log(1, 4)})
		ticks(r, 3)
		c.m.From = 1
		r.Step(c.m)
		what := tellMsg(c.m)
		ticks(r, c.left-1)
		want(t, what+": too few ticks", r.Role(), raft.Follower)
		r.Tick()
		want(t, what, r.Role(), raft.Candidate)
	}
}

// P10.1: to More and Install of an earlier term a node answers Have, no, 0, of its own term, and does nothing else.
func TestEarlierLeader(t *testing.T) {
	for _, kind := range []int{raft.More, raft.Install} {
		m := raft.Msg{Kind: kind, From: 2, To: 1, Term: 4, Index: 2, LogTerm: 3, Commit: 2, Entries: log(3, 4), Snap: "s"}
		r, d := open(t, 1, 3, term.State{Term: 5, Log: log(1, 2, 3)})
		stored := tellState(r.State())
		r.Step(m)
		wantSent(t, "follower", r, "Have 1>2 t5")
		want(t, "follower", tellNode(r), "follower t5 of -1, 0 0 2")
		wantStored(t, "follower", r, d, stored)
		stand(r, 1)
		m.Term = 5
		r.Step(m)
		wantSent(t, "candidate", r, "Have 1>2 t6")
		want(t, "candidate", tellNode(r), "candidate t6 of -1, 0 0 2")
		r.Step(raft.Msg{Kind: raft.Vote, From: 2, To: 1, Term: 6, OK: true})
		r.Take()
		r.Step(m)
		wantSent(t, "leader", r, "Have 1>2 t6")
		want(t, "leader", tellNode(r), "leader t6 of 1, 0 0 3")
	}
}

// P10.1: More and Install of the own or a later term make a node of any role a follower of the sender.
func TestLaterLeader(t *testing.T) {
	for _, kind := range []int{raft.More, raft.Install} {
		for later := range 2 {
			r, _ := open(t, 1, 3, term.State{Term: 4})
			step := func(from int) {
				t.Helper()
				at := r.Term() + later
				last := r.Last()
				r.Step(raft.Msg{Kind: kind, From: from, To: 1, Term: at})
				want(t, "follower", tellNode(r), fmt.Sprintf("follower t%d of %d, 0 0 %d", at, from, last))
				wantSent(t, "follower", r, fmt.Sprintf("Have 1>%d t%d yes", from, at))
			}
			step(2)
			step(0)
			stand(r, 1)
			want(t, "candidate", r.Leader(), -1)
			step(2)
			lead(t, r, 1, 3)
			step(0)
		}
	}
}

// P10.1: More: a node that has the entry before it not, or with another term, answers no: one less than that number, or its last entry, if that is smaller.
func TestMoreBefore(t *testing.T) {
	// The entries 1 to 3 are in the snapshot.
	s := term.State{Term: 9, Base: 3, BaseTerm: 3, Snap: "s", Log: log(4, 3, 5, 5)}
	for index := range 10 {
		for at := range 8 {
			r, d := open(t, 0, 3, s)
			r.Step(raft.Msg{Kind: raft.More, From: 1, To: 0, Term: 9, Index: index, LogTerm: at, Commit: 100})
			what := fmt.Sprintf("entry %d/%d", index, at)
			has := index <= 3 || index == 4 && at == 3 || (index == 5 || index == 6) && at == 5
			commit := 3
			answer := fmt.Sprintf("Have 0>1 t9 %d/0 yes", index)
			if index == 0 {
				answer = "Have 0>1 t9 yes"
			}
			if has {
				commit = max(commit, index)
			} else {
				answer = fmt.Sprintf("Have 0>1 t9 %d/0", min(index-1, 6))
			}
			wantSent(t, what, r, answer)
			want(t, what, tellNode(r), fmt.Sprintf("follower t9 of 1, %d 3 6", commit))
			wantStored(t, what, r, d, tellState(s))
		}
	}
}

// P10.1: More: what the node has stays; from the first entry on that it has not, or with another term, its own are removed, and those of the message are stored. The answer is yes, up to the last one of the message.
func TestMoreEntries(t *testing.T) {
	s := term.State{Term: 9, Base: 2, BaseTerm: 1, Snap: "s", Log: log(3, 1, 2, 2, 4)}
	const head = `9 0; 2 1 "s";`
	for _, c := range []struct {
		what      string
		index, at int
		l         []term.Entry
		log       []term.Entry
	}{
		{"nothing", 4, 2, nil, s.Log},
		{"new ones", 6, 4, log(7, 4, 5), log(3, 1, 2, 2, 4, 4, 5)},
		{"some that it has", 3, 1, log(4, 2, 2), s.Log},
		{"all that it has", 2, 1, log(3, 1, 2, 2, 4), s.Log},
		{"some that it has, and new ones", 4, 2, log(5, 2, 4, 4, 9), log(3, 1, 2, 2, 4, 4, 9)},
		{"another first one", 2, 1, log(3, 2), log(3, 2)},
		{"another last one", 5, 2, log(6, 5), log(3, 1, 2, 2, 5)},
		{"others in the middle", 3, 1, log(4, 2, 3, 3), log(3, 1, 2, 3, 3)},
		{"fewer others", 3, 1, log(4, 3), log(3, 1, 3)},
		{"some of the snapshot", 0, 0, log(1, 7, 7, 1, 2), s.Log},
		{"some of the snapshot, and another one", 1, 0, log(2, 7, 8), log(3, 8)},
		{"only of the snapshot", 0, 0, log(1, 7), s.Log},
		{"up to the snapshot", 1, 9, log(2, 7), s.Log},
	} {
		r, d := open(t, 0, 3, s)
		r.Step(raft.Msg{Kind: raft.More, From: 1, To: 0, Term: 9, Index: c.index, LogTerm: c.at, Entries: c.l})
		wantSent(t, c.what, r, fmt.Sprintf("Have 0>1 t9 %d/0 yes", c.index+len(c.l)))
		want(t, c.what, tellNode(r), fmt.Sprintf("follower t9 of 1, 2 2 %d", 2+len(c.log)))
		wantStored(t, c.what, r, d, head+entries(c.log))
	}
}

// P10.1: More: entries with the same number and term stay, even if a message that no node sent says other commands.
func TestMoreSameTerm(t *testing.T) {
	r, d := open(t, 0, 3, term.State{Term: 9, Log: log(1, 1, 2)})
	r.Step(raft.Msg{Kind: raft.More, From: 1, To: 0, Term: 9, Entries: []term.Entry{{Index: 1, Term: 1, Cmd: "x"}, {Index: 2, Term: 3, Cmd: "y"}}})
	wantStored(t, "More", r, d, `9 0; 0 0 ""; 1/1 "c1" 2/3 "y"`)
}

// P10.1: More: entries that would leave a gap, which no node sends, are not stored.
func TestMoreGap(t *testing.T) {
	r, d := open(t, 0, 3, term.State{Term: 9, Base: 1, BaseTerm: 1, Log: log(2, 1)})
	for index := range 3 {
		for _, first := range []int{4, 5, math.MaxInt - 1} {
			r.Step(raft.Msg{Kind: raft.More, From: 1, To: 0, Term: 9, Index: index, LogTerm: 1, Commit: 9, Entries: log(first, 1, 1)})
			wantStored(t, "gap", r, d, `9 0; 1 1 ""; 2/1 "c2"`)
			want(t, "gap", tellNode(r), "follower t9 of 1, 1 1 2")
			for _, m := range r.Take() {
				want(t, "gap: yes", m.OK, false)
			}
		}
	}
}

// P10.1: More: everything up to Commit is committed, as far as the message goes; what was committed stays so.
func TestMoreCommit(t *testing.T) {
	for _, c := range []struct {
		what              string
		index, n, message int
		commit            int
	}{
		{"nothing", 3, 0, 0, 2},
		{"less", 3, 2, 1, 2},
		{"up to the one before", 4, 0, 4, 4},
		{"beyond the one before", 4, 0, 9, 4},
		{"within the entries", 3, 2, 4, 4},
		{"up to the last entry", 3, 2, 5, 5},
		{"beyond the last entry", 3, 2, 6, 5},
		{"far beyond", 6, 2, math.MaxInt, 8},
		{"old message", 0, 1, 9, 2},
	} {
		s := term.State{Term: 9, Base: 2, BaseTerm: 1, Snap: "s", Log: log(3, 1, 1, 1, 1)}
		r, _ := open(t, 0, 3, s)
		l := log(c.index+1, 1, 1)[:c.n]
		m := raft.Msg{Kind: raft.More, From: 1, To: 0, Term: 9, Index: c.index, LogTerm: 1, Commit: c.message, Entries: l}
		for range 2 {
			r.Step(m)
			want(t, c.what, tellNode(r), fmt.Sprintf("follower t9 of 1, %d 2 %d", c.commit, max(6, c.index+c.n)))
			m.Commit = 0
		}
	}
}

// P10.1: Install: a snapshot that covers more than what is committed is stored, and everything up to its last entry is committed; the entries after that stay if the node has it with its term. The answer is yes, that entry.
func TestInstall(t *testing.T) {
	s := term.State{Term: 9, Base: 2, BaseTerm: 1, Snap: "old", Log: log(3, 1, 2, 2, 4)}
	for _, c := range []struct {
		what            string
		index, at       int
		state           string
		commit, applied int
		last            int
	}{
		{"nothing", 0, 0, tellState(s), 4, 4, 6},
		{"less than the own one", 1, 9, tellState(s), 4, 4, 6},
		{"as much as the own one", 2, 1, tellState(s), 4, 4, 6},
		{"less than what is committed", 3, 1, tellState(s), 4, 4, 6},
		{"what is committed", 4, 2, tellState(s), 4, 4, 6},
		{"what is committed, another term", 4, 3, tellState(s), 4, 4, 6},
		{"more", 5, 2, `9 0; 5 2 "new"; 6/4 "c6"`, 5, 4, 6},
		{"more, another term", 5, 4, `9 0; 5 4 "new";`, 5, 4, 5},
		{"everything", 6, 4, `9 0; 6 4 "new";`, 6, 4, 6},
		{"everything, another term", 6, 5, `9 0; 6 5 "new";`, 6, 4, 6},
		{"more than everything", 7, 4, `9 0; 7 4 "new";`, 7, 4, 7},
		{"far more", 1 << 40, 9, `9 0; 1099511627776 9 "new";`, 1 << 40, 4, 1 << 40},
	} {
		r, d := open(t, 0, 3, s)
		r.Step(raft.Msg{Kind: raft.More, From: 1, To: 0, Term: 9, Index: 4, LogTerm: 2, Commit: 4})
		r.Fresh()
		r.Take()
		r.Step(raft.Msg{Kind: raft.Install, From: 2, To: 0, Term: 9, Index: c.index, LogTerm: c.at, Commit: 1 << 41, Snap: "new"})
		answer := fmt.Sprintf("Have 0>2 t9 %d/0 yes", c.index)
		if c.index == 0 {
			answer = "Have 0>2 t9 yes"
		}
		wantSent(t, c.what, r, answer)
		want(t, c.what, tellNode(r), fmt.Sprintf("follower t9 of 2, %d %d %d", c.commit, c.applied, c.last))
		wantStored(t, c.what, r, d, c.state)
	}
}

// P10.1: Install: whichever call of the disk fails, nothing is sent, and the entries that do not follow the snapshot do not follow it after a crash either.
func TestInstallInterrupted(t *testing.T) {
	m := raft.Msg{Kind: raft.Install, From: 1, To: 0, Term: 9, Index: 4, LogTerm: 5, Snap: "new"}
	found := map[string]bool{}
	calls := 0
	for whole := false; !whole; calls++ {
		for choice := range 4 {
			r, d := open(t, 0, 3, term.State{Term: 9, Base: 2, BaseTerm: 1, Snap: "old", Log: log(3, 1, 2, 2, 4)})
			d.Fail(calls)
			r.Step(m)
			if r.Broken() == api.OK {
				whole = true
				break
			}
			want(t, "Broken", r.Broken(), api.ErrIO)
			wantSent(t, "Broken", r)
			d.Crash([]int{choice % 2, choice / 2})
			d.Fail(-1)
			s, e := term.Load(d)
			must(t, e)
			found[tellState(s)] = true
		}
	}
	want(t, "fails", calls > 4, true)
	for _, s := range []string{`9 0; 2 1 "old"; 3/1 "c3" 4/2 "c4" 5/2 "c5" 6/4 "c6"`, `9 0; 2 1 "old"; 3/1 "c3" 4/2 "c4"`, `9 0; 4 5 "new";`} {
		want(t, "found "+s, found[s], true)
		delete(found, s)
	}
	want(t, fmt.Sprint("others: ", found), len(found), 0)
}
