package catalog

import (
	"slices"

	"glacier/api"
	"glacier/command"
)

// Result is what a command returns: an error, or what its kind asks for.
type Result struct {
	Err   api.Errno
	Blob  uint64
	Size  int
	Sum   uint32
	Names []string
}

// Apply applies a command and returns its result. With an error nothing changes.
func (c *Catalog) Apply(x command.Command) Result {
	if !x.Good() {
		return Result{Err: api.ErrForm}
	}
	switch x.Kind {
	case command.Put:
		return Result{Err: c.put(x)}
	case command.Get, command.Delete, command.Stat:
		return c.use(x)
	case command.List:
		return Result{Names: c.list()}
	case command.Close, command.Erase, command.Erased:
		return Result{Err: c.turn(x)}
	}
	return Result{Err: c.change(x)}
}

// put adds a blob, to which its name belongs from then on.
func (c *Catalog) put(x command.Command) api.Errno {
	if x.Name == "" || x.Blob == 0 || len(x.Disks) == 0 {
		return api.ErrArg
	}
	if c.blobs[x.Blob] != nil {
		return api.ErrThere
	}
	if old := c.names[x.Name]; old != nil {
		c.kill(old)
	}
	b := Blob{ID: x.Blob, Name: x.Name, Size: x.Size, Sum: x.Sum, Disks: x.Disks}
	c.add(b.clone())
	return api.OK
}

// add adds a blob, and its name unless it is dead.
func (c *Catalog) add(b Blob) {
	c.blobs[b.ID] = &b
	if !b.Dead {
		c.names[b.Name] = &b
	}
}

// kill makes a blob dead, so that its name belongs to none.
func (c *Catalog) kill(b *Blob) {
	b.Dead = true
	delete(c.names, b.Name)
}

// use applies a Get, a Delete or a Stat.
func (c *Catalog) use(x command.Command) Result {
	b := c.names[x.Name]
	if b == nil {
		return Result{Err: api.ErrNone}
	}
	switch x.Kind {
	case command.Get:
		b.Pins++
	case command.Delete:
		c.kill(b)
	}
	return Result{Blob: b.ID, Size: b.Size, Sum: b.Sum}
}

// turn applies a command to a volume.
func (c *Catalog) turn(x command.Command) api.Errno {
	v := &c.vols[x.Vol]
	switch x.Kind {
	case command.Close:
		v.Closed = true
	case command.Erase:
		if n, _ := c.Live(x.Vol); n > 0 {
			return api.ErrBusy
		}
		// A closed volume gets no copies, so that it has none until it is erased.
		v.Closed, v.Erase = true, true
	case command.Erased:
		if !v.Erase {
			return api.ErrOrder
		}
		*v = Vol{Gen: v.Gen + 1}
	}
	return api.OK
}

// change applies a mover's command to a blob.
func (c *Catalog) change(x command.Command) api.Errno {
	b := c.blobs[x.Blob]
	if b == nil {
		return api.ErrNone
	}
	switch x.Kind {
	case command.Unpin:
		return b.unpin()
	case command.Spread:
		return b.spread(x.Disks)
	case command.Taped:
		if c.vols[x.Vol].Closed {
			return api.ErrOrder
		}
		return b.taped(x.Vol, x.At)
	case command.Free:
		return b.free()
	case command.Untape:
		return b.untape(x.Pool)
	}
	return c.forget(b)
}

func (b *Blob) unpin() api.Errno {
	if b.Pins == 0 {
		return api.ErrOrder
	}
	b.Pins--
	return api.OK
}

func (b *Blob) spread(disks []int) api.Errno {
	if len(disks) == 0 {
		return api.ErrArg
	}
	if len(b.Disks) == 0 {
		return api.ErrOrder
	}
	b.Disks = slices.Clone(disks)
	return api.OK
}

func (b *Blob) taped(vol, at int) api.Errno {
	if b.on(vol) {
		return api.ErrThere
	}
	b.Copies[Pool(vol)] = Copy{true, vol, at}
	return api.OK
}

func (b *Blob) free() api.Errno {
	if !b.Copies[0].There || !b.Copies[1].There || len(b.Disks) == 0 {
		return api.ErrOrder
	}
	b.Disks = nil
	return api.OK
}

func (b *Blob) untape(pool int) api.Errno {
	elsewhere := len(b.Disks) > 0 || b.Copies[1-pool].There
	if !b.Copies[pool].There || !elsewhere {
		return api.ErrOrder
	}
	b.Copies[pool] = Copy{}
	return api.OK
}

func (c *Catalog) forget(b *Blob) api.Errno {
	if !b.Dead || b.Pins > 0 {
		return api.ErrOrder
	}
	delete(c.blobs, b.ID)
	return api.OK
}
