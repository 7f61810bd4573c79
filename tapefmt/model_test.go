package tapefmt_test

import (
	"fmt"
	"math/rand"
	"slices"
	"strings"
	"testing"

	"glacier/api"
	"glacier/reel"
	"glacier/seal"
	"glacier/tapefmt"
)

// block is one as the volume returns it.
type block struct {
	text string
	mark bool
	e    api.Errno
}

func blocks(t *testing.T, v *reel.Volume) []block {
	t.Helper()
	var l []block
	for n := range v.Len() {
		must(t, v.Seek(n))
		s, mark, e := v.Read()
		l = append(l, block{s, mark, e})
	}
	return l
}

// modelRead is Read as the chapter describes it.
func modelRead(label string, l []block, from int, blob uint64) (string, api.Errno) {
	if from < 0 || from > len(l) {
		return "", api.ErrArg
	}
	data := ""
	for n, b := range l[from:] {
		if b.e != api.OK {
			return "", b.e
		}
		if b.mark {
			return "", api.ErrForm
		}
		p, e := tapefmt.Parse(b.text)
		if e != api.OK {
			return "", e
		}
		parts := max(1, (p.Size+199)/200)
		data += p.Data
		p.Data = ""
		if p != (tapefmt.Piece{label, from + n, blob, n, parts, p.Size, p.Sum, ""}) {
			return "", api.ErrForm
		}
		if n < parts-1 {
			continue
		}
		if len(data) != p.Size || seal.Sum(data) != p.Sum {
			return "", api.ErrSum
		}
		return data, api.OK
	}
	return "", api.ErrEnd
}

// modelScan is Scan as the chapter describes it.
func modelScan(label string, l []block) ([]tapefmt.Item, int) {
	var items []tapefmt.Item
	end, skip := 0, 0
	for n, b := range l {
		if n < skip {
			continue
		}
		p, _ := tapefmt.Parse(b.text)
		if data, e := modelRead(label, l, n, p.Blob); e == api.OK {
			items = append(items, tapefmt.Item{p.Blob, n, len(data)})
			skip = n + max(1, (len(data)+199)/200)
			end = skip
		}
	}
	return items, end
}

// anyPiece is the piece of a block, with a field or two that may not be what it should be.
func anyPiece(r *rand.Rand, label string, block int, blob uint64, part, size int) tapefmt.Piece {
	data := bytesOf(blob, size)
	p := tapefmt.Piece{label, block, blob, part, tapefmt.Parts(size), size, seal.Sum(data), data[200*part : min(size, 200*part+200)]}
	for range max(0, r.Intn(4)-1) {
		switch r.Intn(8) {
		case 0:
			p.Label = []string{"", "V0", "V0.0"}[r.Intn(3)]
		case 1:
			p.Block += r.Intn(3) - 1
		case 2:
			p.Blob ^= uint64(r.Intn(2))
		case 3:
			p.Part += r.Intn(3) - 1
		case 4:
			p.Parts += r.Intn(3) - 1
		case 5:
			p.Size += []int{-200, -1, 0, 1, 200}[r.Intn(5)]
		case 6:
			p.Sum += uint32(r.Intn(2))
		case 7:
			p.Data = p.Data[:r.Intn(len(p.Data)+1)]
		}
	}
	return p
}

// writeAny appends to a volume a blob, the blocks of one that may be wrong, or something else.
func writeAny(r *rand.Rand, v *reel.Volume) {
	blob, size := uint64(r.Intn(3)), []int{0, 1, 200, 201, 401, 600}[r.Intn(6)]
	v.Seek(v.Len())
	switch r.Intn(8) {
	case 0:
		v.Mark()
	case 1:
		v.Write(strings.Repeat("\x00", r.Intn(30)))
	case 2:
		tapefmt.Write(v, blob, bytesOf(blob, size))
	case 3:
		v.Fail(r.Intn(6))
		tapefmt.Write(v, blob, bytesOf(blob, size))
		v.Fail(-1)
	default:
		parts := tapefmt.Parts(size)
		for part := range parts - r.Intn(5)/4 {
			v.Write(tapefmt.Spell(anyPiece(r, v.Label(), v.Len(), blob, part, size)))
		}
	}
}

// P7.1: Read and Scan return what the chapter says, of any volume.
func TestAgainstModel(t *testing.T) {
	blobs := 0
	for seed := range int64(300) {
		r := rand.New(rand.NewSource(seed))
		v := volume(t, 10000, []string{"", "V0", "V0.0"}[r.Intn(3)])
		for range 5 + r.Intn(5) {
			writeAny(r, v)
		}
		if r.Intn(2) == 0 {
			v.Crash([]int{r.Intn(v.Len() + 1), r.Intn(300)})
		}
		if r.Intn(3) == 0 && v.Len() > 0 {
			v.Spoil(r.Intn(v.Len()), r.Intn(40), byte(r.Intn(256)))
		}
		l := blocks(t, v)
		what := fmt.Sprint("seed ", seed)
		items, end := modelScan(v.Label(), l)
		wantScan(t, what, v, end, items...)
		blobs += len(items)
		for from := -1; from <= v.Len()+1; from++ {
			for blob := range uint64(4) {
				data, e := modelRead(v.Label(), l, from, blob)
				wantRead(t, fmt.Sprint(what, ", from ", from, ", blob ", blob), v, from, blob, data, e)
			}
		}
		if !slices.Equal(blocks(t, v), l) {
			t.Errorf("%s: reading has changed the volume", what)
		}
	}
	want(t, "there are many blobs to be found", blobs > 300, true)
}
