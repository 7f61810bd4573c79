package tapefmt_test

import (
	"fmt"
	"math/rand"
	"slices"
	"strings"
	"testing"

	"glacier/api"
	"glacier/reel"
	"glacier/tapefmt"
)

// tape is a volume, and what was written to it.
type tape struct {
	v     *reel.Volume
	sure  []tapefmt.Item // the blobs whose Write returned OK, or that were there after a crash
	maybe []tapefmt.Item // those whose Write returned an error since the last crash
	data  map[tapefmt.Item]string
}

func newTape(t *testing.T) *tape {
	return &tape{v: volume(t, 100000, "V0.7"), data: map[tapefmt.Item]string{}}
}

// write writes a blob; it fails at a call of the volume, unless that is below 0.
func (p *tape) write(t *testing.T, blob uint64, data string, fail int) {
	t.Helper()
	i := tapefmt.Item{blob, p.v.Len(), len(data)}
	p.data[i] = data
	p.v.Fail(fail)
	from, e := tapefmt.Write(p.v, blob, data)
	p.v.Fail(-1)
	switch {
	case e == api.OK && from == i.From:
		p.sure = append(p.sure, i)
	case e == api.ErrIO && fail >= 0:
		p.maybe = append(p.maybe, i)
	default:
		t.Fatalf("Write: %d, %d", from, e)
	}
}

// check reads the blobs that a Scan finds: exactly those that are sure, and perhaps some of the others.
func (p *tape) check(t *testing.T, what string) []tapefmt.Item {
	t.Helper()
	l, end, e := tapefmt.Scan(p.v)
	must(t, e)
	last := 0
	for _, i := range l {
		wantRead(t, what, p.v, i.From, i.Blob, p.data[i], api.OK)
		last = i.From + tapefmt.Parts(i.Size)
		if !slices.Contains(p.sure, i) && !slices.Contains(p.maybe, i) {
			t.Fatalf("%s: %v was never written", what, i)
		}
	}
	want(t, what+": end", end, last)
	for _, i := range p.sure {
		if !slices.Contains(l, i) {
			t.Fatalf("%s: %v is not found", what, i)
		}
		wantRead(t, what, p.v, i.From, i.Blob, p.data[i], api.OK)
	}
	return l
}

// crash crashes the volume and mends it. What is found then is durable.
func (p *tape) crash(t *testing.T, what string, choice []int) {
	t.Helper()
	p.v.Crash(choice)
	must(t, tapefmt.Mend(p.v))
	want(t, what+": At", p.v.At(), p.v.Len())
	p.sure = p.check(t, what)
	p.maybe = nil
}

// P7.3: wherever a Write is interrupted, and whatever of it a crash leaves, after Mend the blobs before it are found, and nothing else but perhaps its blob; more blobs can be written then.
func TestTornAnywhere(t *testing.T) {
	for _, size := range []int{0, 200, 401} {
		parts := tapefmt.Parts(size)
		for fail := -1; fail < parts+3; fail++ {
			for keep := range parts + 2 {
				for _, left := range []int{0, 1, 7, 8, 30, 229, -1} {
					p := newTape(t)
					p.write(t, 1, bytesOf(1, 201), -1)
					p.write(t, 2, "", -1)
					p.write(t, 3, bytesOf(3, size), fail)
					what := fmt.Sprint(size, " bytes, fails at ", fail, ", crash ", keep, ", ", left)
					p.check(t, what)
					p.crash(t, what, []int{keep, left})
					p.write(t, 3, bytesOf(3, size), -1)
					p.write(t, 4, bytesOf(4, 1), -1)
					p.crash(t, what+", and another one", nil)
				}
			}
		}
	}
}

// P7.3: if the mark of a blob can't be written, or the Flush fails, the blob is found as long as its parts are there.
func TestTornEnd(t *testing.T) {
	for _, fail := range []int{3, 4} { // after a Seek and two blocks, or also a mark
		for keep := range 3 {
			p := newTape(t)
			p.write(t, 1, bytesOf(1, 201), fail)
			want(t, "blobs before a crash", len(p.check(t, "before")), 1)
			p.crash(t, "a crash", []int{keep})
			want(t, fmt.Sprint("blobs after a crash that keeps ", keep, " blocks"), len(p.sure), keep/2)
		}
	}
}

// writeOther appends something that is not a blob of this volume.
func (p *tape) writeOther(r *rand.Rand) {
	v := p.v
	v.Seek(v.Len())
	switch r.Intn(5) {
	case 0:
		v.Mark()
	case 1:
		v.Write(strings.Repeat("x", r.Intn(300)))
	case 2: // a piece of another block
		v.Write(tapefmt.Spell(tapefmt.Piece{v.Label(), v.Len() + 1, 1, 0, 1, 0, 0, ""}))
	case 3: // a piece of another volume
		v.Write(tapefmt.Spell(tapefmt.Piece{"V0.6", v.Len(), 1, 0, 1, 0, 0, ""}))
	case 4: // a part without the first one
		v.Write(tapefmt.Spell(tapefmt.Piece{v.Label(), v.Len(), 1, 1, 2, 300, 0, "xyz"}))
	}
}

// P7.2, P7.3: what was written is read back where it was written, after whatever is written then, and after any faults and crashes.
func TestReadBack(t *testing.T) {
	for seed := range int64(150) {
		r := rand.New(rand.NewSource(seed))
		p := newTape(t)
		for i := range 25 {
			what := fmt.Sprint("seed ", seed, ", step ", i)
			blob, size := uint64(r.Intn(3)), []int{0, 1, 199, 200, 201, 401, 1000}[r.Intn(7)]
			switch r.Intn(6) {
			case 0:
				p.crash(t, what, []int{r.Intn(20), r.Intn(400)})
			case 1, 2:
				p.write(t, blob, bytesOf(blob, size), r.Intn(tapefmt.Parts(size)+4))
			case 3:
				p.writeOther(r)
			default:
				p.write(t, blob, bytesOf(blob, size), -1)
			}
			p.check(t, what)
		}
	}
}

// P7.2: a full volume has all blobs that were written to it, of any bytes and any size.
func TestReadBackFull(t *testing.T) {
	for _, size := range []int{0, 50, 250, 4000} {
		v := volume(t, 20000, strings.Repeat("l", api.MaxName))
		n := 0
		e := api.OK
		for ; e == api.OK; n++ {
			_, e = tapefmt.Write(v, uint64(n)<<56, bytesOf(uint64(n), size))
		}
		want(t, "the last Write", e, api.ErrFull)
		l, _, e := tapefmt.Scan(v)
		must(t, e)
		want(t, "blobs", len(l), n-1)
		for i, item := range l {
			want(t, "item", item, tapefmt.Item{uint64(i) << 56, i * (tapefmt.Parts(size) + 1), size})
			wantRead(t, "full", v, item.From, item.Blob, bytesOf(uint64(i), size), api.OK)
		}
	}
}

// P7.2: bytes that look like blocks are nothing but bytes.
func TestReadBackOfPieces(t *testing.T) {
	v := volume(t, 100000, "V0")
	piece := tapefmt.Spell(tapefmt.Piece{"V0", 1, 9, 0, 1, 0, 0, ""})
	must(t, v.Mark())
	data := strings.Repeat(piece, 30)
	from := add(t, v, 7, data)
	add(t, v, 8, piece)
	wantRead(t, "pieces", v, from, 7, data, api.OK)
	end := from + tapefmt.Parts(len(data)) + 1
	wantScan(t, "pieces", v, end+1, tapefmt.Item{7, from, len(data)}, tapefmt.Item{8, end, len(piece)})
}

// P7.4: whichever byte of a block is changed, its blob is not read, and all others are.
func TestSpoilt(t *testing.T) {
	v := volume(t, 100000, "V3.1")
	var items []tapefmt.Item
	for blob, size := range []int{401, 0, 1, 200, 300} {
		from := add(t, v, uint64(blob), bytesOf(uint64(blob), size))
		items = append(items, tapefmt.Item{uint64(blob), from, size})
	}
	tried := 0
	for n := range v.Len() {
		i := slices.IndexFunc(items, func(i tapefmt.Item) bool { return n <= i.From+tapefmt.Parts(i.Size) })
		others := slices.Delete(slices.Clone(items), i, i+1)
		end := others[len(others)-1]
		for at := 0; v.Spoil(n, at, 0); at++ {
			for _, by := range []byte{1, 0x80, 0xff, 0x12} {
				v.Spoil(n, at, by)
				what := fmt.Sprint("block ", n, ", byte ", at, " ^ ", by)
				s, e := tapefmt.Read(v, items[i].From, items[i].Blob)
				want(t, what, s, "")
				want(t, what+": no error", e == api.OK, false)
				wantScan(t, what, v, end.From+tapefmt.Parts(end.Size), others...)
				v.Spoil(n, at, by)
				tried++
			}
		}
		wantScan(t, "not spoilt any more", v, v.Len()-1, items...)
	}
	want(t, "many bytes were spoilt", tried > 4000, true)
}
