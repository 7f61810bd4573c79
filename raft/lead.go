package raft

import (
	"slices"

	"glacier/api"
	"glacier/term"
)

// elect starts an election.
func (r *Node) elect() {
	if !r.storeTerm(r.state.Term+1, r.id+1) {
		return
	}
	r.role, r.leader, r.timer = Candidate, nobody, 0
	r.votes = [api.MaxNodes]bool{}
	index, at := r.state.Last()
	for to := range r.n {
		r.send(Msg{Kind: Ask, To: to, Index: index, LogTerm: at})
	}
	r.count(r.id)
}

// count counts a vote for this node.
func (r *Node) count(from int) {
	r.votes[from] = true
	n := 0
	for _, yes := range r.votes {
		if yes {
			n++
		}
	}
	if n > r.n/2 {
		r.lead()
	}
}

// lead makes this node the leader. The entry without bytes is of its own term: only with such an entry are those of earlier terms committed.
func (r *Node) lead() {
	r.role, r.leader = Leader, r.id
	for i := range r.next {
		r.next[i], r.match[i] = r.Last()+1, 0
	}
	r.add("")
}

// add appends an entry.
func (r *Node) add(cmd string) {
	x := term.Entry{Index: r.Last() + 1, Term: r.state.Term, Cmd: cmd}
	if !r.storeEntries(x) {
		return
	}
	r.match[r.id] = x.Index
	r.sendAll()
	r.advance()
}

// advance advances the commit index to the last entry that more than half of the nodes have, if it and all after it are of this term: a later leader might lack one of an earlier term, though that many nodes have it.
func (r *Node) advance() {
	l := r.match
	slices.Sort(l[:r.n])
	most := l[(r.n-1)/2]
	if most <= r.commit {
		return
	}
	for i := r.Last(); i >= most; i-- {
		if !r.has(i, r.state.Term) {
			return
		}
	}
	r.commit = most
}

// heard takes in up to which entry another node has the leader's entries.
func (r *Node) heard(m Msg) {
	match, next := &r.match[m.From], &r.next[m.From]
	if !m.OK {
		*next = max(min(m.Index, *next-2), *match) + 1
		r.supply(m.From)
		return
	}
	if m.Index <= r.Last() {
		*match = max(*match, m.Index)
	}
	r.advance()
	*next = max(*next, *match+1)
	// An answer that is not the latest one does not tell that the node waits for more.
	if *next <= r.Last() && m.Index == *next-1 {
		r.supply(m.From)
	}
}

// sendAll sends to all others what they lack, if only that this node leads.
func (r *Node) sendAll() {
	for to := range r.n {
		r.supply(to)
	}
}

// supply sends to a node what it lacks.
func (r *Node) supply(to int) {
	m := Msg{To: to, Commit: r.commit}
	at, known := r.state.TermAt(r.next[to] - 1)
	if known {
		m.Kind, m.Index, m.LogTerm = More, r.next[to]-1, at
		m.Entries = r.state.From(r.next[to], Batch)
	} else {
		m.Kind, m.Index, m.LogTerm = Install, r.state.Base, r.state.BaseTerm
		m.Snap = r.state.Snap
	}
	r.send(m)
}

// send sends a message, but none to this node itself.
func (r *Node) send(m Msg) {
	if m.To == r.id {
		return
	}
	m.From, m.Term = r.id, r.state.Term
	r.out = append(r.out, m)
}
