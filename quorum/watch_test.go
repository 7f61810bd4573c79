package quorum_test

import (
	"fmt"
	"strings"
	"testing"

	"glacier/api"
	"glacier/quorum"
	"glacier/raft"
	"glacier/term"
)

// place is the number and the term of an entry.
type place struct {
	index, term int
}

// link is what must be the same wherever there is an entry with a number and term: its command, and the term of the entry before it. If both always are, all entries before it are the same, too.
type link struct {
	cmd    string
	before int
}

// watch sees what the nodes of a net know at any time, and checks that it is SAFE. What a node hands out makes a text, which is also its snapshot.
type watch struct {
	t         *testing.T
	name      string
	q         *quorum.Net
	leaders   map[int]int // the leader of each term
	links     map[place]link
	committed []term.Entry // entry i + 1, as the first node that knew it to be committed had it
	ends      []int        // ends[i] is the length of the text of the first i of them
	text      string
	knew      []int // up to which entry a node knew once that everything is committed
	texts     []string
	steps     []string
	proposed  int
	inStep    int // how often elections were in step for ever
}

func newWatch(t *testing.T, name string, n int) *watch {
	t.Helper()
	q, e := quorum.New(n, 1<<22)
	must(t, e)
	return &watch{t: t, name: name, q: q, leaders: map[int]int{}, links: map[place]link{}, ends: []int{0}, knew: make([]int, n), texts: make([]string, n)}
}

// fail ends the test with what was done at last.
func (w *watch) fail(what string, args ...any) {
	w.t.Helper()
	l := w.steps[max(len(w.steps)-60, 0):]
	w.t.Fatalf("%s: %s; after %d steps, at last %s\n%s", w.name, fmt.Sprintf(what, args...), len(w.steps), strings.Join(l, "; "), tellNet(w.q))
}

func (w *watch) step(what string, args ...any) {
	w.steps = append(w.steps, fmt.Sprintf(what, args...))
}

// command returns a command that occurs only once.
func (w *watch) command() string {
	w.proposed++
	return fmt.Sprintf("%d.", w.proposed)
}

// start starts a node, which has handed out its snapshot then.
func (w *watch) start(i int) {
	w.t.Helper()
	w.step("start %d", i)
	if e := w.q.Start(i); e != api.OK {
		w.fail("Start of %d: %d", i, e)
	}
	w.texts[i] = w.q.Node(i).State().Snap
	w.check(i)
}

// take takes what a node hands out.
func (w *watch) take(i int) {
	w.t.Helper()
	r := w.q.Node(i)
	if r == nil {
		return
	}
	before, base := r.Applied(), r.State().Base
	snap, is, l := r.Fresh()
	if is != (before < base) || is && len(l) > 0 {
		w.fail("node %d hands out a snapshot: %t, and %d entries; it had handed out %d, and its snapshot covers %d", i, is, len(l), before, base)
	}
	if is {
		w.texts[i] = snap
	}
	for k, x := range l {
		if x.Index != before+1+k {
			w.fail("node %d hands out entry %d after %d", i, x.Index, before+k)
		}
		w.texts[i] += x.Cmd
	}
	w.check(i)
}

// checkAll checks all nodes.
func (w *watch) checkAll() {
	w.t.Helper()
	for i := range w.q.Len() {
		w.check(i)
	}
}

// check compares a node that is up with all that nodes have known so far.
func (w *watch) check(i int) {
	w.t.Helper()
	r := w.q.Node(i)
	if r == nil {
		return
	}
	if r.Broken() != api.OK {
		w.fail("node %d is broken, and up", i)
	}
	if r.Role() == raft.Leader {
		if other, is := w.leaders[r.Term()]; is && other != i {
			w.fail("%d and %d lead in term %d", i, other, r.Term())
		}
		w.leaders[r.Term()] = i
	}
	s := r.State()
	w.matches(i, s)
	w.commits(i, r, s)
	w.hands(i, r)
}

// matches: an entry with the same number and term is the same, and follows the same ones, wherever it is, at any time.
func (w *watch) matches(i int, s term.State) {
	w.t.Helper()
	before := s.BaseTerm
	for k, x := range s.Log {
		if x.Index != s.Base+1+k || x.Term < before {
			w.fail("node %d has entry %d/%d as number %d, after term %d", i, x.Index, x.Term, s.Base+1+k, before)
		}
		at, own := place{x.Index, x.Term}, link{x.Cmd, before}
		if other, is := w.links[at]; is && other != own {
			w.fail("entry %v of node %d is %v, and was %v", at, i, own, other)
		}
		w.links[at] = own
		before = x.Term
	}
}

// commits: what a node knows to be committed is the same on all that know it, and it stays, also when the node goes down and starts again.
func (w *watch) commits(i int, r *raft.Node, s term.State) {
	w.t.Helper()
	for len(w.committed) < r.Commit() {
		l := s.From(len(w.committed)+1, 1)
		if len(l) == 0 {
			w.fail("node %d commits entry %d, which it does not have", i, len(w.committed)+1)
		}
		w.committed = append(w.committed, l[0])
		w.text += l[0].Cmd
		w.ends = append(w.ends, len(w.text))
	}
	w.knew[i] = max(w.knew[i], r.Commit())
	if r.Last() < w.knew[i] {
		w.fail("node %d knew that %d are committed, and has %d", i, w.knew[i], r.Last())
	}
	for _, x := range s.Log {
		if x.Index <= w.knew[i] && x != w.committed[x.Index-1] {
			w.fail("node %d has another entry %d than the committed one", i, x.Index)
		}
	}
	if s.Base > len(w.committed) || s.Base > 0 && s.BaseTerm != w.committed[s.Base-1].Term {
		w.fail("node %d has a snapshot of %d/%d", i, s.Base, s.BaseTerm)
	}
	if s.Snap != w.text[:w.ends[s.Base]] {
		w.fail("node %d has the snapshot %q, want %q", i, s.Snap, w.text[:w.ends[s.Base]])
	}
}

// hands: what a node has handed out is a prefix of what is committed.
func (w *watch) hands(i int, r *raft.Node) {
	w.t.Helper()
	if r.Applied() > r.Commit() {
		w.fail("node %d has handed out %d, and knows of %d", i, r.Applied(), r.Commit())
	}
	if all := w.text[:w.ends[r.Applied()]]; w.texts[i] != all {
		w.fail("node %d has handed out %q, want %q", i, w.texts[i], all)
	}
}
