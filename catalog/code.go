package catalog

import (
	"math"
	"slices"

	"glacier/api"
	"glacier/command"
	"glacier/wire"
)

// The limits of a catalog that can be decoded, in addition to those of package api.
const (
	maxBlobs = 100000
	maxCount = 1 << 30 // of a block, a pin count and a Gen
)

// Write returns the encoding of a catalog.
func (c *Catalog) Write() string {
	var e wire.Enc
	e.I(len(c.blobs))
	for _, id := range c.ids() {
		c.blobs[id].write(&e)
	}
	for _, v := range c.vols {
		e.B(v.Closed, v.Erase).I(v.Gen)
	}
	return e.Bytes()
}

func (b *Blob) write(e *wire.Enc) {
	e.U(b.ID).S(b.Name).B(!b.Dead).I(b.Size).U(uint64(b.Sum)).List(b.Disks...)
	for _, t := range b.Copies {
		e.B(t.There).I(t.Vol, t.At)
	}
	e.I(b.Pins)
}

// Read returns the catalog of which s is the encoding.
func Read(s string) (*Catalog, api.Errno) {
	c := New()
	d := wire.From(s)
	last := uint64(0)
	for range d.I(maxBlobs) {
		b := readBlob(d)
		if b.ID <= last || !b.Dead && (b.Name == "" || c.names[b.Name] != nil) {
			d.Fail(api.ErrForm)
		}
		if e := d.Err(); e != api.OK {
			return nil, e
		}
		c.add(b)
		last = b.ID
	}
	for n := range c.vols {
		c.vols[n] = Vol{d.B(), d.B(), d.I(maxCount)}
	}
	if e := d.Done(); e != api.OK {
		return nil, e
	}
	return c, api.OK
}

// readBlob decodes a blob, and checks what does not depend on other blobs.
func readBlob(d *wire.Dec) Blob {
	b := Blob{
		ID:   d.U(),
		Name: d.S(api.MaxName),
		Dead: !d.B(),
		Size: d.I(api.MaxBlob),
	}
	sum := d.U()
	b.Sum = uint32(sum)
	b.Disks = d.List(api.MaxDisks, api.MaxDisks-1)
	if sum > math.MaxUint32 || !slices.Equal(b.Disks, command.Disk(b.Disks...)) {
		d.Fail(api.ErrForm)
	}
	for pool := range b.Copies {
		b.Copies[pool] = readCopy(d, pool)
	}
	b.Pins = d.I(maxCount)
	return b
}

func readCopy(d *wire.Dec, pool int) Copy {
	t := Copy{d.B(), d.I(api.MaxVolumes - 1), d.I(maxCount)}
	if t.There && Pool(t.Vol) != pool || !t.There && t != (Copy{}) {
		d.Fail(api.ErrForm)
	}
	return t
}
