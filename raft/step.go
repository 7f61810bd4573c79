package raft

import (
	"glacier/api"
	"glacier/term"
)

// Step processes a message.
func (r *Node) Step(m Msg) {
	if r.broken != api.OK || m.To != r.id || m.From == r.id || m.From < 0 || m.From >= r.n {
		return
	}
	if m.Term > r.state.Term {
		if !r.storeTerm(m.Term, 0) {
			return
		}
		r.role, r.leader = Follower, nobody
	}
	switch m.Kind {
	case Ask:
		r.asked(m)
	case Vote:
		if m.OK && m.Term == r.state.Term && r.role == Candidate {
			r.count(m.From)
		}
	case More, Install:
		r.follow(m)
	case Have:
		if m.Term == r.state.Term && r.role == Leader {
			r.heard(m)
		}
	}
}

// asked answers a candidate. It votes for none whose log may lack an entry that is committed.
func (r *Node) asked(m Msg) {
	index, at := r.state.Last()
	whole := m.LogTerm > at || m.LogTerm == at && m.Index >= index
	free := r.state.Vote == 0 || r.state.Vote == m.From+1
	yes := m.Term >= r.state.Term && whole && free
	if yes {
		if !r.storeTerm(r.state.Term, m.From+1) {
			return
		}
		r.timer = 0
	}
	r.send(Msg{Kind: Vote, To: m.From, OK: yes})
}

// follow processes what only a leader sends.
func (r *Node) follow(m Msg) {
	if m.Term < r.state.Term {
		r.send(Msg{Kind: Have, To: m.From})
		return
	}
	r.role, r.leader, r.timer = Follower, m.From, 0
	if m.Kind == More {
		r.more(m)
	} else {
		r.install(m)
	}
}

// more takes in entries, if the node has what precedes them.
func (r *Node) more(m Msg) {
	if !r.fits(m) {
		r.send(Msg{Kind: Have, To: m.From, Index: min(max(m.Index-1, 0), r.Last())})
		return
	}
	if !r.merge(m.Entries) {
		return
	}
	last := m.Index
	if n := len(m.Entries); n > 0 {
		last = m.Entries[n-1].Index
	}
	r.commit = max(r.commit, min(m.Commit, last))
	r.send(Msg{Kind: Have, To: m.From, OK: true, Index: last})
}

// fits reports whether the node has the entry before those of a message. The snapshot covers only entries that are committed, which every leader has.
func (r *Node) fits(m Msg) bool {
	if m.Index > r.state.Base && !r.has(m.Index, m.LogTerm) {
		return false
	}
	// A message that no node sent may leave a gap, which a log cannot have.
	return len(m.Entries) == 0 || m.Entries[0].Index-1 <= r.Last()
}

// merge stores the entries from the first one on that the node does not have. It keeps what follows those that it has: the message may be an old one.
func (r *Node) merge(l []term.Entry) bool {
	for i, x := range l {
		if x.Index > r.state.Base && !r.has(x.Index, x.Term) {
			return r.storeInstead(l[i:])
		}
	}
	return true
}

// install takes in a snapshot, unless it is an old one.
func (r *Node) install(m Msg) {
	if m.Index > r.commit && !r.storeSnap(m.Index, m.LogTerm, m.Snap) {
		return
	}
	r.send(Msg{Kind: Have, To: m.From, OK: true, Index: m.Index})
}
