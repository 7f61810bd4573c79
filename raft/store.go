package raft

import (
	"slices"

	"glacier/api"
	"glacier/term"
)

// stored reports whether the disk has stored something. An error breaks the node, and nothing that it was about to send is sent.
func (r *Node) stored(e api.Errno) bool {
	if e != api.OK {
		r.broken, r.out = e, nil
	}
	return e == api.OK
}

// storeTerm stores a term, and the vote in it as layer 9 numbers it.
func (r *Node) storeTerm(at, vote int) bool {
	if !r.stored(term.SaveTerm(r.disk, at, vote)) {
		return false
	}
	r.state.Term, r.state.Vote = at, vote
	return true
}

// storeEntries stores entries that follow the last one.
func (r *Node) storeEntries(l ...term.Entry) bool {
	if !r.stored(term.Append(r.disk, l...)) {
		return false
	}
	r.state.Log = append(r.state.Log, l...)
	return true
}

// storeInstead stores entries instead of all that the log has from the first one of them on.
func (r *Node) storeInstead(l []term.Entry) bool {
	if l[0].Index > r.Last() {
		return r.storeEntries(l...)
	}
	return r.storeLog(slices.Concat(r.before(l[0].Index), l))
}

// storeLog stores a whole log, which the node keeps.
func (r *Node) storeLog(l []term.Entry) bool {
	if !r.stored(term.Rewrite(r.disk, l...)) {
		return false
	}
	r.state.Log = l
	return true
}

// storeSnap stores a snapshot up to an entry. The entries after it stay if they follow that entry.
func (r *Node) storeSnap(base, at int, snap string) bool {
	var rest []term.Entry
	if r.has(base, at) {
		rest = r.state.From(base+1, len(r.state.Log))
	} else if r.Last() > base && !r.storeLog(r.before(base+1)) {
		// They are removed first, lest a crash after the snapshot was stored makes them follow it.
		return false
	}
	if !r.stored(term.SaveSnap(r.disk, base, at, snap, rest...)) {
		return false
	}
	r.state.Base, r.state.BaseTerm, r.state.Snap, r.state.Log = base, at, snap, rest
	r.commit = max(r.commit, base)
	return true
}

// has reports whether the node has an entry with a term, or has it as the last one of its snapshot.
func (r *Node) has(index, at int) bool {
	own, known := r.state.TermAt(index)
	return known && own == at
}

// before returns the entries with smaller numbers.
func (r *Node) before(index int) []term.Entry {
	return r.state.From(r.state.Base+1, index-r.state.Base-1)
}
