package raft_test

import (
	"fmt"
	"math/rand"
	"slices"
	"strings"
	"testing"

	"glacier/api"
	"glacier/platter"
	"glacier/raft"
	"glacier/term"
)

// group is several nodes (nil: one that is down), whose messages the test hands on. What each node handed out makes a text, which is also its snapshot.
type group struct {
	t         *testing.T
	name      string
	nodes     []*raft.Node
	disks     []*platter.Disk
	texts     []string
	way       []raft.Msg
	leaders   map[int]int  // of each term
	committed []term.Entry // entry i + 1
	knew      []int        // up to which entry a node knew once that everything is committed
	steps     []string
	proposed  int
	inStep    int // how often elections were in step for ever
}

func newGroup(t *testing.T, name string, n int) *group {
	g := &group{t: t, name: name, leaders: map[int]int{}, nodes: make([]*raft.Node, n), texts: make([]string, n), knew: make([]int, n)}
	for i := range n {
		g.disks = append(g.disks, platter.New(1<<20))
		g.start(i)
	}
	return g
}

// fail ends the test with what was done at last.
func (g *group) fail(what string, args ...any) {
	g.t.Helper()
	l := g.steps[max(len(g.steps)-60, 0):]
	g.t.Fatalf("%s: %s; after %d steps, at last %s", g.name, fmt.Sprintf(what, args...), len(g.steps), strings.Join(l, "; "))
}

// start opens a node that is down; its text is that of its snapshot.
func (g *group) start(i int) {
	g.disks[i].Fail(-1)
	r, e := raft.Open(g.disks[i], i, len(g.nodes))
	if e != api.OK {
		g.fail("Open of %d: %d", i, e)
	}
	g.nodes[i], g.texts[i] = r, r.State().Snap
	g.check(i)
}

// crash makes a node go down.
func (g *group) crash(i int, choice ...int) {
	g.nodes[i] = nil
	g.disks[i].Crash(choice)
}

// after collects what a node sends and hands out, checks it, and lets it go down if it is broken.
func (g *group) after(i int) {
	r := g.nodes[i]
	g.way = append(g.way, r.Take()...)
	if r.Broken() != api.OK {
		g.crash(i)
		return
	}
	snap, is, l := r.Fresh()
	if is {
		g.texts[i] = snap
	}
	for _, x := range l {
		g.texts[i] += x.Cmd
	}
	g.check(i)
}

func (g *group) tick(i int) {
	if g.nodes[i] != nil {
		g.nodes[i].Tick()
		g.after(i)
	}
}

// deliver takes a message off the way, and hands it on if its node is up.
func (g *group) deliver(k int) {
	m := g.way[k]
	g.way = append(g.way[:k:k], g.way[k+1:]...)
	if g.nodes[m.To] != nil {
		g.nodes[m.To].Step(m)
		g.after(m.To)
	}
}

func (g *group) propose(i int) (int, int, api.Errno) {
	g.proposed++
	index, at, e := g.nodes[i].Propose(fmt.Sprintf("%d.", g.proposed))
	g.after(i)
	return index, at, e
}

func (g *group) compact(i int) {
	g.nodes[i].Compact(g.texts[i])
	g.after(i)
}

// round hands on all messages that are on the way, in order, and then lets time pass.
func (g *group) round() {
	for range len(g.way) {
		g.deliver(0)
	}
	for i := range g.nodes {
		g.tick(i)
	}
}

// leader returns the leader of the latest term, or -1.
func (g *group) leader() int {
	leader := -1
	for i, r := range g.nodes {
		if r != nil && r.Role() == raft.Leader && (leader < 0 || r.Term() > g.nodes[leader].Term()) {
			leader = i
		}
	}
	return leader
}

// best returns the node whose last entry is the latest one, or -1 if none is up.
func (g *group) best() int {
	best, index, at := -1, 0, 0
	for i, r := range g.nodes {
		if r == nil {
			continue
		}
		s := r.State()
		if n, term := s.Last(); best < 0 || term > at || term == at && n > index {
			best, index, at = i, n, term
		}
	}
	return best
}

// check compares a node with all others, and with what was committed.
func (g *group) check(i int) {
	g.t.Helper()
	r := g.nodes[i]
	s := r.State()
	if r.Role() == raft.Leader {
		if other, is := g.leaders[r.Term()]; is && other != i {
			g.fail("%d and %d lead in term %d", i, other, r.Term())
		}
		g.leaders[r.Term()] = i
	}
	for j, other := range g.nodes {
		if other != nil && j != i {
			g.match(i, j, s, other.State())
		}
	}
	g.commits(i, r, s)
}

// match: nodes that have an entry with the same number and term have the same entries up to there.
func (g *group) match(i, j int, a, b term.State) {
	g.t.Helper()
	last, _ := a.Last()
	same := false
	for at := last; at >= max(a.Base, b.Base); at-- {
		one, has := a.TermAt(at)
		two, both := b.TermAt(at)
		if !has || !both || one != two {
			if same {
				g.fail("nodes %d and %d have another entry %d, and the same after it", i, j, at)
			}
			continue
		}
		same = true
		x, y := a.From(at, 1), b.From(at, 1)
		if len(x) == 1 && len(y) == 1 && x[0] != y[0] {
			g.fail("entry %d of nodes %d and %d", at, i, j)
		}
	}
}

// commits: what a node knows to be committed is what others know, and stays; what it handed out is a prefix of that.
func (g *group) commits(i int, r *raft.Node, s term.State) {
	g.t.Helper()
	for len(g.committed) < r.Commit() {
		l := s.From(len(g.committed)+1, 1)
		if len(l) == 0 {
			g.fail("node %d commits entry %d, which it does not have", i, len(g.committed)+1)
		}
		g.committed = append(g.committed, l[0])
	}
	g.knew[i] = max(g.knew[i], r.Commit())
	if r.Last() < g.knew[i] {
		g.fail("node %d knew that %d are committed, and has %d", i, g.knew[i], r.Last())
	}
	for _, x := range s.Log {
		if x.Index <= g.knew[i] && x != g.committed[x.Index-1] {
			g.fail("node %d has another entry %d", i, x.Index)
		}
	}
	if s.Base > 0 && s.BaseTerm != g.committed[s.Base-1].Term {
		g.fail("node %d has another term of %d", i, s.Base)
	}
	if r.Applied() > r.Commit() || r.Applied() < s.Base && r.Broken() == api.OK {
		g.fail("node %d has handed out %d, and %d are committed", i, r.Applied(), r.Commit())
	}
	var text strings.Builder
	for _, x := range g.committed[:r.Applied()] {
		text.WriteString(x.Cmd)
	}
	if g.texts[i] != text.String() {
		g.fail("node %d has handed out %q, want %q", i, g.texts[i], text.String())
	}
}

// chaos does something that may happen.
func (g *group) chaos(rnd *rand.Rand) {
	i := rnd.Intn(len(g.nodes))
	up := g.nodes[i] != nil
	step := func(what string, args ...any) { g.steps = append(g.steps, fmt.Sprintf(what, args...)) }
	switch p := rnd.Intn(200); {
	case p < 100 && len(g.way) > 0:
		k := 0
		if rnd.Intn(3) == 0 {
			k = rnd.Intn(len(g.way))
		}
		step("deliver %s", tellMsg(g.way[k]))
		g.deliver(k)
	case p < 108 && len(g.way) > 0:
		k := rnd.Intn(len(g.way))
		step("drop %s", tellMsg(g.way[k]))
		g.way = append(g.way[:k:k], g.way[k+1:]...)
	case p < 116 && len(g.way) > 0 && len(g.way) < 200:
		k := rnd.Intn(len(g.way))
		step("again %s", tellMsg(g.way[k]))
		g.way = append(g.way, g.way[k])
	case p < 160:
		step("tick %d", i)
		g.tick(i)
	case p < 180 && up:
		step("propose %d", i)
		g.propose(i)
	case p < 186 && up:
		step("compact %d", i)
		g.compact(i)
	case p < 190 && up:
		step("crash %d", i)
		g.crash(i, rnd.Intn(9), rnd.Intn(9))
	case p < 192:
		n := rnd.Intn(8)
		step("fail %d, %d", i, n)
		g.disks[i].Fail(n)
	case p < 200 && !up:
		step("start %d", i)
		g.start(i)
	}
	if len(g.way) > 200 {
		g.way = g.way[:200]
	}
}

// settled reports whether there is a leader that all others follow, and all know that everything is committed.
func (g *group) settled() bool {
	leader := g.leader()
	for _, r := range g.nodes {
		if r != nil && (leader < 0 || r.Leader() != leader || r.Applied() != g.nodes[leader].Last()) {
			return false
		}
	}
	return true
}

// rounds makes rounds until the nodes have settled, and what was on the way since then is delivered.
func (g *group) rounds() bool {
	settled := 0
	for range 100 {
		g.round()
		settled++
		if !g.settled() {
			settled = 0
		}
		if settled == 3 {
			return true
		}
	}
	return false
}

// live: with more than half of the nodes up, there is a leader after some rounds, and what is proposed to it is committed at all of them; and so is what was committed before.
func (g *group) live() {
	g.t.Helper()
	for i := range g.disks {
		g.disks[i].Fail(-1)
	}
	known := len(g.committed)
	if !g.rounds() {
		// The timers of the chapter can keep two nodes in step for ever, such as 0 and 2, of which only 2 may lead, and needs the vote that 0 has given itself. Time that is not quite even ends this.
		g.inStep++
		g.tick(g.best())
		if !g.rounds() {
			g.fail("no leader")
		}
	}
	leader := g.leader()
	last := g.nodes[leader].Last()
	if last < known {
		g.fail("%d were committed, and the leader has %d", known, last)
	}
	for i := range 6 {
		index, at, e := g.propose(leader)
		if index != last+1+i || at != g.nodes[leader].Term() || e != api.OK {
			g.fail("Propose after %d: %d, %d, %d", last, index, at, e)
		}
	}
	for range 6 {
		g.round()
	}
	if !g.settled() || g.leader() != leader || len(g.committed) != last+6 {
		g.fail("6 entries proposed, %d to %d committed", last, len(g.committed))
	}
}

// restart lets nodes go down, all of them or those that are to be down, and starts all others.
func (g *group) restart(rnd *rand.Rand, all bool, down []int) {
	g.steps = append(g.steps, fmt.Sprint("restart ", all, down))
	for i, r := range g.nodes {
		if r != nil && (all || slices.Contains(down, i)) {
			g.crash(i, rnd.Intn(9), rnd.Intn(9))
		}
	}
	for i, r := range g.nodes {
		if r == nil && !slices.Contains(down, i) {
			g.start(i)
		}
	}
}

// P10.2, P11.1 to P11.3: whatever happens to the nodes, their disks and their messages, they are SAFE; afterwards they are LIVE, also when some stay down; and what was committed is KEPT when all of them go down and more than half start again.
func TestGroup(t *testing.T) {
	lives, inStep, total := 0, 0, 0
	for seed := range int64(400) {
		rnd := rand.New(rand.NewSource(seed))
		n := 1 + rnd.Intn(5)
		g := newGroup(t, fmt.Sprintf("seed %d, %d nodes", seed, n), n)
		for range 3 {
			for range 100 + rnd.Intn(500) {
				g.chaos(rnd)
			}
			g.restart(rnd, rnd.Intn(2) == 0, rnd.Perm(n)[:rnd.Intn((n+1)/2)])
			g.live()
			lives++
		}
		total += len(g.committed)
		inStep += g.inStep
	}
	if inStep > lives/50 {
		t.Errorf("%d times of %d nodes kept in step", inStep, lives)
	}
	if total < 8000 {
		t.Errorf("only %d entries were committed", total)
	}
}

// P10.2: three nodes without any fault: after 6 rounds node 0 leads, and 3 rounds after a Propose all know that it is committed (example 1 of layer 11).
func TestThreeNodes(t *testing.T) {
	g := newGroup(t, "three nodes", 3)
	for range 6 {
		want(t, "leader", g.leader(), -1)
		g.round()
	}
	want(t, "leader", g.leader(), 0)
	index, at, e := g.propose(0)
	want(t, "Propose", fmt.Sprint(index, at, e), "2 1 0")
	for range 3 {
		g.round()
	}
	for i, r := range g.nodes {
		want(t, "Commit", r.Commit(), 2)
		want(t, "Leader", r.Leader(), 0)
		want(t, "text", g.texts[i], "1.")
	}
}

// P10.2: a node that was down for long gets everything: the entries, or the snapshot and the entries after it.
func TestCatchUp(t *testing.T) {
	for _, compact := range []bool{false, true} {
		g := newGroup(t, "three nodes", 3)
		for range 6 {
			g.round()
		}
		g.crash(2)
		for range 30 {
			_, _, e := g.propose(0)
			must(t, e)
			g.round()
		}
		g.round()
		if compact {
			g.compact(0)
			want(t, "Base", g.nodes[0].State().Base, 31)
		}
		for range 5 {
			_, _, e := g.propose(0)
			must(t, e)
		}
		g.start(2)
		for range 40 {
			g.round()
		}
		want(t, "Applied", g.nodes[2].Applied(), 36)
		want(t, "text", g.texts[2], g.texts[0])
		base := 0
		if compact {
			base = 31
		}
		want(t, "Base", g.nodes[2].State().Base, base)
	}
}
