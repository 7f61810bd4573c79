package quorum_test

import (
	"fmt"
	"strings"
	"testing"

	"glacier/api"
	"glacier/raft"
)

// round makes a Round, after which all nodes hand out what they have.
func (w *watch) round() {
	w.t.Helper()
	w.q.Round()
	w.checkAll()
	for i := range w.q.Len() {
		w.take(i)
	}
}

// settled reports whether all nodes that are up follow one leader, and have handed out everything.
func (w *watch) settled() bool {
	leader := w.q.Leader()
	if leader < 0 {
		return false
	}
	last := w.q.Node(leader).Last()
	for i := range w.q.Len() {
		r := w.q.Node(i)
		if r != nil && (r.Leader() != leader || r.Applied() != last || w.texts[i] != w.text) {
			return false
		}
	}
	return len(w.committed) == last
}

// rounds makes Rounds until the nodes have settled, and what was in transit before does not change that, and reports whether that happens.
func (w *watch) rounds(most int) bool {
	w.t.Helper()
	settled := 0
	for range most {
		w.round()
		settled++
		if !w.settled() {
			settled = 0
		}
		if settled == 3 {
			return true
		}
	}
	return false
}

// best returns the node that is up whose last entry is the latest one: all others may vote for it.
func (w *watch) best() int {
	best, end := -1, place{}
	for i := range w.q.Len() {
		r := w.q.Node(i)
		if r == nil {
			continue
		}
		s := r.State()
		index, at := s.Last()
		if best < 0 || at > end.term || at == end.term && index > end.index {
			best, end = i, place{index, at}
		}
	}
	return best
}

// rivals returns how many other candidates there are in the term of a node.
func (w *watch) rivals(i int) int {
	n := 0
	for j := range w.q.Len() {
		r := w.q.Node(j)
		if j != i && r != nil && r.Role() == raft.Candidate && r.Term() == w.q.Node(i).Term() {
			n++
		}
	}
	return n
}

// leaveStep lets one more Tick pass for the best node. This ends what the timers of layer 10 can bring about: that it never starts an election unless another one does so in the same Round and term, and thus has voted for itself. (Such as nodes 0 and 2 of three, if 1 is down and 0 lacks entries: their timers run off every 4 and 8 Ticks.) Any other reason for having no leader is a fault.
func (w *watch) leaveStep() {
	w.t.Helper()
	w.inStep++
	best := w.best()
	for range 120 { // a multiple of how long each timer runs
		at := w.q.Node(best).Term()
		w.round()
		r := w.q.Node(best)
		if r.Role() == raft.Candidate && r.Term() > at && w.rivals(best) == 0 {
			w.fail("no leader, though %d starts elections", best)
		}
	}
	if w.q.Leader() >= 0 {
		w.fail("%d leads only after very long", w.q.Leader())
	}
	w.step("tick %d, to leave step", best)
	w.q.Tick(best)
	if !w.rounds(200) {
		w.fail("no leader, though none are in step")
	}
}

// live: with more than half of the nodes up, and without further faults, there is a leader after some Rounds, and what is proposed to it is committed; what had been committed is there on all nodes.
func (w *watch) live(proposals int) {
	w.t.Helper()
	up, kept := w.q.Up(), w.text
	if 2*up <= w.q.Len() {
		w.fail("only %d are up", up)
	}
	w.step("rounds")
	if !w.rounds(200) {
		w.leaveStep()
	}
	leader := w.q.Leader()
	for range proposals {
		cmd := w.command()
		last := w.q.Node(leader).Last()
		index, at, e := w.q.Propose(leader, cmd)
		if index != last+1 || at != w.q.Node(leader).Term() || e != api.OK {
			w.fail("Propose: %d, %d, %d", index, at, e)
		}
		for range 3 {
			w.round()
		}
		if !w.settled() || len(w.committed) != index || w.committed[index-1].Cmd != cmd {
			w.fail("%q was proposed as %d, and %d are committed", cmd, index, len(w.committed))
		}
	}
	if w.q.Leader() != leader || w.q.Up() != up || !strings.HasPrefix(w.text, kept) {
		w.fail("%d led, and %q was committed", leader, kept)
	}
}

// P11.2: without any fault there is a leader after some Rounds, whatever nodes are down, as long as more than half are up; with half of them or fewer there is none, and nothing is committed.
func TestLive(t *testing.T) {
	for n := 1; n <= api.MaxNodes; n++ {
		for set := range 1 << n {
			w := newWatch(t, fmt.Sprintf("%d nodes, of which %05b stay up", n, set), n)
			for i := range n {
				if set>>i&1 == 0 {
					must(t, w.q.Crash(i))
				}
			}
			if 2*w.q.Up() > n {
				w.live(5)
				want(t, w.name+": in step", w.inStep, 0)
				continue
			}
			for range 100 {
				w.round()
				want(t, w.name+": Leader", w.q.Leader(), -1)
			}
			want(t, w.name+": committed", len(w.committed), 0)
		}
	}
}

// P11.2: the leader goes down, again and again: the others elect another one, and what was committed is there.
func TestNextLeader(t *testing.T) {
	for n := 3; n <= api.MaxNodes; n++ {
		w := newWatch(t, fmt.Sprint(n, " nodes"), n)
		down := -1
		for range 10 {
			w.live(2)
			if down >= 0 {
				w.start(down)
			}
			down = w.q.Leader()
			must(t, w.q.Crash(down))
			if w.q.Leader() >= 0 {
				w.fail("%d leads", w.q.Leader())
			}
		}
	}
}

// P11.3: all nodes go down, right after the leader alone came to know what is committed, of which almost half of the nodes have nothing. Whichever more than half are started again, it is there.
func TestKept(t *testing.T) {
	for n := 1; n <= api.MaxNodes; n++ {
		for set := range 1 << n {
			for leader := range n {
				for _, snapshot := range []bool{false, true} {
					w := newWatch(t, fmt.Sprintf("%d nodes, of which %05b start again, leader %d, snapshot: %t", n, set, leader, snapshot), n)
					lead(t, w.q, leader)
					w.ahead(leader, 10)
					if snapshot {
						w.take(leader)
						must(t, w.q.Compact(leader, w.text))
					}
					w.revive(set)
				}
			}
		}
	}
}

// ahead lets a leader and just as many of the nodes after it as make more than half get entries, of which the leader alone knows that they are committed.
func (w *watch) ahead(leader, count int) {
	w.t.Helper()
	n := w.q.Len()
	for range count {
		_, _, e := w.q.Propose(leader, w.command())
		must(w.t, e)
	}
	last := w.q.Node(leader).Last()
	for w.q.Node(leader).Commit() < last {
		if w.q.On() == 0 {
			w.q.Tick(leader)
		}
		if to := w.q.Way()[0].To; (to-leader+n)%n <= n/2 {
			w.q.Deliver(0)
		} else {
			w.q.Drop(0)
		}
	}
	w.check(leader)
	want(w.t, w.name+": committed", len(w.committed), last)
	for i := range n {
		want(w.t, w.name+": has it", w.q.Node(i).Last() == last, (i-leader+n)%n <= n/2)
		want(w.t, w.name+": knows of it", w.q.Node(i).Commit() == last, i == leader)
	}
}

// revive lets all nodes go down, and starts those of a set again, which then have what was committed, if they are more than half.
func (w *watch) revive(set int) {
	w.t.Helper()
	kept := w.text
	for i := range w.q.Len() {
		must(w.t, w.q.Crash(i, 1, 1))
	}
	want(w.t, w.name+": Up", w.q.Up(), 0)
	want(w.t, w.name+": Leader", w.q.Leader(), -1)
	for i := range w.q.Len() {
		if set>>i&1 == 1 {
			w.start(i)
		}
	}
	if 2*w.q.Up() <= w.q.Len() {
		return
	}
	w.live(3)
	for i := range w.q.Len() {
		if w.q.Node(i) != nil && !strings.HasPrefix(w.texts[i], kept) {
			w.fail("%d has %q, want %q", i, w.texts[i], kept)
		}
	}
}
