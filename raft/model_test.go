package raft_test

import (
	"fmt"
	"math"
	"math/rand"
	"strings"
	"testing"

	"glacier/api"
	"glacier/platter"
	"glacier/raft"
	"glacier/term"
)

// model is a node as the chapter describes it, without its disk, of which it only counts the calls.
type model struct {
	id, n           int
	s               term.State
	role, leader    int
	commit, applied int
	timer           int
	votes           map[int]bool
	match, next     map[int]int
	out             []string
	calls           int // of the disk, up to the one that fails; 0: none does
	broken          bool
}

func newModel(id, n int, s term.State) *model {
	return &model{id: id, n: n, s: s, leader: -1, commit: s.Base, applied: s.Base}
}

// disk makes so many calls of the disk, and reports whether all succeed.
func (m *model) disk(calls int) bool {
	if m.calls == 0 {
		return true
	}
	m.calls = max(m.calls-calls, 0)
	if m.calls == 0 {
		m.broken, m.out = true, nil
	}
	return m.calls > 0
}

func (m *model) setTerm(at, vote int) bool {
	if !m.disk(2) {
		return false
	}
	m.s.Term, m.s.Vote = at, vote
	return true
}

// setLog stores a log that is longer, or another one.
func (m *model) setLog(l []term.Entry) bool {
	if !m.disk(2) {
		return false
	}
	m.s.Log = l
	return true
}

func (m *model) setSnap(base, at int, snap string) bool {
	var rest []term.Entry
	own, has := m.termAt(base)
	if has && own == at {
		rest = m.upTo(base+1, 1<<50)
	} else if m.last() > base && !m.setLog(m.upTo(0, base)) {
		return false
	}
	if !m.disk(4) {
		return false
	}
	m.s.Base, m.s.BaseTerm, m.s.Snap, m.s.Log = base, at, snap, rest
	return true
}

func (m *model) last() int {
	return m.s.Base + len(m.s.Log)
}

func (m *model) lastTerm() int {
	at, _ := m.termAt(m.last())
	return at
}

func (m *model) termAt(index int) (int, bool) {
	for _, x := range m.s.Log {
		if x.Index == index {
			return x.Term, true
		}
	}
	return m.s.BaseTerm, index == m.s.Base
}

// upTo returns the entries from one to another.
func (m *model) upTo(from, to int) []term.Entry {
	var l []term.Entry
	for _, x := range m.s.Log {
		if x.Index >= from && x.Index <= to {
			l = append(l, x)
		}
	}
	return l
}

func (m *model) send(x raft.Msg) {
	x.From, x.Term = m.id, m.s.Term
	m.out = append(m.out, tellMsg(x))
}

func (m *model) sendMore(to int) {
	before := m.next[to] - 1
	if at, has := m.termAt(before); has {
		m.send(raft.Msg{Kind: raft.More, To: to, Index: before, LogTerm: at, Commit: m.commit, Entries: m.upTo(before+1, before+4)})
		return
	}
	m.send(raft.Msg{Kind: raft.Install, To: to, Index: m.s.Base, LogTerm: m.s.BaseTerm, Commit: m.commit, Snap: m.s.Snap})
}

func (m *model) sendAll(send func(to int)) {
	for to := range m.n {
		if to != m.id {
			send(to)
		}
	}
}

func (m *model) tick() {
	if m.broken {
		return
	}
	if m.role == raft.Leader {
		m.sendAll(m.sendMore)
		return
	}
	m.timer++
	if m.timer < 4+2*m.id || !m.setTerm(m.s.Term+1, m.id+1) {
		return
	}
	m.role, m.leader, m.timer, m.votes = raft.Candidate, -1, 0, map[int]bool{}
	m.sendAll(func(to int) {
		m.send(raft.Msg{Kind: raft.Ask, To: to, Index: m.last(), LogTerm: m.lastTerm()})
	})
	m.vote(m.id)
}

func (m *model) vote(from int) {
	m.votes[from] = true
	if 2*len(m.votes) <= m.n {
		return
	}
	m.role, m.leader, m.match, m.next = raft.Leader, m.id, map[int]int{}, map[int]int{}
	for i := range m.n {
		m.next[i] = m.last() + 1
	}
	m.add("")
}

func (m *model) add(cmd string) bool {
	x := term.Entry{Index: m.last() + 1, Term: m.s.Term, Cmd: cmd}
	if !m.setLog(append(m.upTo(0, 1<<50), x)) {
		return false
	}
	m.match[m.id] = x.Index
	m.sendAll(m.sendMore)
	m.advance()
	return true
}

func (m *model) advance() {
	for i := m.last(); i > m.commit; i-- {
		if at, _ := m.termAt(i); at != m.s.Term {
			return
		}
		n := 0
		for node := range m.n {
			if m.match[node] >= i {
				n++
			}
		}
		if 2*n > m.n {
			m.commit = i
			return
		}
	}
}

func (m *model) step(x raft.Msg) {
	if m.broken || x.To != m.id || x.From == m.id || x.From < 0 || x.From >= m.n {
		return
	}
	if x.Term > m.s.Term {
		if !m.setTerm(x.Term, 0) {
			return
		}
		m.role, m.leader = raft.Follower, -1
	}
	now := x.Term == m.s.Term
	switch {
	case x.Kind == raft.Ask:
		m.ask(x, now)
	case x.Kind == raft.Vote && x.OK && now && m.role == raft.Candidate:
		m.vote(x.From)
	case x.Kind == raft.Have && now && m.role == raft.Leader:
		m.have(x)
	case (x.Kind == raft.More || x.Kind == raft.Install) && !now:
		m.send(raft.Msg{Kind: raft.Have, To: x.From})
	case x.Kind == raft.More:
		m.role, m.leader, m.timer = raft.Follower, x.From, 0
		m.more(x)
	case x.Kind == raft.Install:
		m.role, m.leader, m.timer = raft.Follower, x.From, 0
		if x.Index > m.commit {
			if !m.setSnap(x.Index, x.LogTerm, x.Snap) {
				return
			}
			m.commit = x.Index
		}
		m.send(raft.Msg{Kind: raft.Have, To: x.From, OK: true, Index: x.Index})
	}
}

func (m *model) ask(x raft.Msg, now bool) {
	last := x.LogTerm > m.lastTerm() || x.LogTerm == m.lastTerm() && x.Index >= m.last()
	yes := now && last && (m.s.Vote == 0 || m.s.Vote == x.From+1)
	if yes {
		if !m.setTerm(m.s.Term, x.From+1) {
			return
		}
		m.timer = 0
	}
	m.send(raft.Msg{Kind: raft.Vote, To: x.From, OK: yes})
}

func (m *model) more(x raft.Msg) {
	at, has := m.termAt(x.Index)
	if x.Index > m.s.Base && (!has || at != x.LogTerm) {
		m.send(raft.Msg{Kind: raft.Have, To: x.From, Index: min(x.Index-1, m.last())})
		return
	}
	for i, e := range x.Entries {
		if e.Index <= m.s.Base {
			continue
		}
		if at, has := m.termAt(e.Index); !has || at != e.Term {
			if !m.setLog(append(m.upTo(0, e.Index-1), x.Entries[i:]...)) {
				return
			}
			break
		}
	}
	last := x.Index + len(x.Entries)
	if x.Commit > m.commit {
		m.commit = max(m.commit, min(x.Commit, last))
	}
	m.send(raft.Msg{Kind: raft.Have, To: x.From, OK: true, Index: last})
}

func (m *model) have(x raft.Msg) {
	from := x.From
	if !x.OK {
		m.next[from] = max(min(x.Index+1, m.next[from]-1), m.match[from]+1)
		m.sendMore(from)
		return
	}
	if x.Index <= m.last() && x.Index > m.match[from] {
		m.match[from] = x.Index
	}
	m.advance()
	m.next[from] = max(m.next[from], m.match[from]+1)
	if m.next[from] <= m.last() && x.Index == m.next[from]-1 {
		m.sendMore(from)
	}
}

func (m *model) propose(cmd string) string {
	switch {
	case m.broken:
		return "0 0 8"
	case m.role != raft.Leader:
		return "0 0 12"
	case !m.add(cmd):
		return "0 0 8"
	}
	return fmt.Sprint(m.last(), m.s.Term, 0)
}

func (m *model) fresh() string {
	if m.broken {
		return `"" false`
	}
	if m.applied < m.s.Base {
		m.applied = m.s.Base
		return fmt.Sprintf("%q true", m.s.Snap)
	}
	l := m.upTo(m.applied+1, m.commit)
	m.applied += len(l)
	return `"" false` + entries(l)
}

func (m *model) compact(snap string) api.Errno {
	switch {
	case m.broken:
		return api.ErrIO
	case m.applied <= m.s.Base:
		return api.ErrNone
	}
	at, has := m.termAt(m.applied)
	if !has {
		at = 0 // entries that were handed out are gone, which a message did that no node sent
	}
	if !m.setSnap(m.applied, at, snap) {
		return api.ErrIO
	}
	return api.OK
}

// tell is what tellNode, tellState and Broken tell of a node.
func (m *model) tell() string {
	role := []string{"follower", "candidate", "leader"}[m.role]
	return fmt.Sprintf("%s t%d of %d, %d %d %d; %s; %v", role, m.s.Term, m.leader, m.commit, m.applied, m.last(), tellState(m.s), m.broken)
}

// anyMsg returns a message that a node of n nodes may get, or that none would send.
func anyMsg(r *rand.Rand, m *model) raft.Msg {
	near := func(n int) int { return max(n+r.Intn(7)-4, 0) }
	x := raft.Msg{Kind: 1 + r.Intn(5), From: r.Intn(m.n), To: m.id, Term: m.s.Term, OK: r.Intn(3) > 0}
	switch r.Intn(12) {
	case 0:
		x.Term = near(m.s.Term + 2)
	case 1:
		x.From, x.To = r.Intn(7)-1, r.Intn(7)-1
	}
	x.Index = near(m.last() + r.Intn(3))
	if r.Intn(3) == 0 {
		x.Index = near(m.commit)
	}
	at, has := m.termAt(x.Index)
	if !has || r.Intn(6) == 0 {
		at = near(m.s.Term)
	}
	x.LogTerm, x.Commit = at, near(x.Index+2)
	for i := range r.Intn(5) {
		own, has := m.termAt(x.Index + 1 + i)
		if !has || r.Intn(8) == 0 {
			own = min(at+r.Intn(2), max(at, m.s.Term))
		}
		at = max(at, own)
		x.Entries = append(x.Entries, term.Entry{Index: x.Index + 1 + i, Term: at, Cmd: strings.Repeat("m", r.Intn(4))})
	}
	if x.Kind == raft.Install {
		x.Snap = strings.Repeat("i", r.Intn(4))
	}
	return x
}

// P10.1: whatever a node is told, also by messages that no node sent, and whenever its disk fails, it does what the chapter describes.
func TestAgainstModel(t *testing.T) {
	did := map[string]int{}
	for seed := range int64(1500) {
		rnd := rand.New(rand.NewSource(seed))
		n := 1 + rnd.Intn(5)
		id := rnd.Intn(n)
		d := platter.New(1 << 20)
		r, e := raft.Open(d, id, n)
		must(t, e)
		m := newModel(id, n, term.State{})
		var steps []string
		for range 150 {
			if rnd.Intn(60) == 0 {
				k := rnd.Intn(6)
				d.Fail(k)
				m.calls = k + 1
				steps = append(steps, fmt.Sprint("Fail ", k))
			}
			steps = append(steps, both(t, rnd, r, m))
			did[fmt.Sprint(m.role, m.broken)]++
			m.compare(t, r)
			if m.broken {
				d.Crash([]int{rnd.Intn(9), rnd.Intn(9)})
				m = reopen(t, r, d, m)
				r, e = raft.Open(d, id, n)
				must(t, e)
				steps = append(steps, "Open")
				m.compare(t, r)
			}
			if m.calls == 0 {
				wantStored(t, "disk", r, d, tellState(m.s))
			}
			if t.Failed() {
				t.Fatalf("seed %d: node %d of %d: %s", seed, id, n, strings.Join(steps, "; "))
			}
		}
	}
	for _, what := range []string{"0 false", "1 false", "2 false", "0 true", "1 true", "2 true"} {
		if did[what] < 30 {
			t.Errorf("role and broken %s: only %d times", what, did[what])
		}
	}
}

// both makes a call of a node and of its model, compares the results, and returns what it did.
func both(t *testing.T, rnd *rand.Rand, r *raft.Node, m *model) string {
	t.Helper()
	switch rnd.Intn(20) {
	case 0, 1, 2, 3, 4, 5:
		r.Tick()
		m.tick()
		return "Tick"
	case 6, 7:
		cmd := strings.Repeat("p", rnd.Intn(4))
		index, at, e := r.Propose(cmd)
		want(t, "Propose", fmt.Sprint(index, at, e), m.propose(cmd))
		return "Propose " + cmd
	case 8:
		snap, is, l := r.Fresh()
		want(t, "Fresh", fmt.Sprintf("%q %v%s", snap, is, entries(l)), m.fresh())
		return "Fresh"
	case 9:
		want(t, "Compact", r.Compact("compact"), m.compact("compact"))
		return "Compact"
	}
	x := anyMsg(rnd, m)
	r.Step(x)
	m.step(x)
	return tellMsg(x)
}

// compare compares what a node says of itself, and what it sends, with the model.
func (m *model) compare(t *testing.T, r *raft.Node) {
	t.Helper()
	want(t, "node", fmt.Sprintf("%s; %s; %v", tellNode(r), tellState(r.State()), r.Broken() != api.OK), m.tell())
	wantSent(t, "node", r, m.out...)
	m.out = nil
}

// reopen returns the model of a node that starts again after it broke.
func reopen(t *testing.T, r *raft.Node, d *platter.Disk, m *model) *model {
	t.Helper()
	s, e := term.Load(d)
	must(t, e)
	if s.Term < r.Term() || s.Base < r.State().Base {
		t.Errorf("%s was stored, but is %s", tellState(r.State()), tellState(s))
	}
	return newModel(m.id, m.n, s)
}

// P10.1, K7: numbers as great as may be do no harm but to what they say.
func TestHugeNumbers(t *testing.T) {
	for seed := range int64(300) {
		rnd := rand.New(rand.NewSource(seed))
		number := func() int {
			return []int{0, 1, 2, 1 << 40, math.MaxInt - 1, math.MaxInt}[rnd.Intn(6)]
		}
		r, e := raft.Open(platter.New(1<<20), 0, 2)
		must(t, e)
		for range 200 {
			x := raft.Msg{Kind: rnd.Intn(7), From: 1, Term: r.Term(), Index: number(), LogTerm: number(), Commit: number(), OK: rnd.Intn(2) > 0}
			if rnd.Intn(5) == 0 {
				x.Term = number()
			}
			for i := range min(rnd.Intn(4), math.MaxInt-x.Index) {
				x.Entries = append(x.Entries, term.Entry{Index: x.Index + 1 + i, Term: x.LogTerm})
			}
			r.Step(x)
			ticks(r, rnd.Intn(6))
			r.Propose("a")
			r.Fresh()
			if rnd.Intn(9) == 0 {
				r.Compact("s")
			}
			r.Take()
		}
		want(t, "Broken", r.Broken(), api.OK)
	}
}
