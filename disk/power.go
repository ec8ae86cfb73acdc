package disk

import "sheaf/api"

const noFuse = -1

func (d *Disk) Flush() api.Errno {
	if e := d.ready(); e != api.OK {
		return e
	}
	if e := d.operate(); e != api.OK {
		return e
	}
	d.settle(func(int) bool { return true })
	return api.OK
}

func (d *Disk) Fuse(n int) {
	if d.made() {
		d.fuse = max(n, noFuse)
	}
}

func (d *Disk) Power(keep []bool) {
	if !d.made() {
		return
	}
	d.settle(survivorsOf(keep))
	d.fuse = noFuse
	d.down = false
}

func (d *Disk) Down() bool { return d.made() && d.down }

func (d *Disk) Waits() int {
	if !d.made() {
		return 0
	}
	return len(d.waits)
}

func (d *Disk) Ops() int {
	if !d.made() {
		return 0
	}
	return d.ops
}

// survivorsOf makes what decides for a list which pending writes, by their places, survive a power failure.
func survivorsOf(keep []bool) func(k int) bool {
	return func(k int) bool { return k < len(keep) && keep[k] }
}

// settle makes the pending writes that survive durable; the order matters where several are of one sector.
func (d *Disk) settle(survives func(k int) bool) {
	for k, w := range d.waits {
		if survives(k) {
			copy(d.sector(w.sector), w.bytes[:])
		}
	}
	d.waits = nil
	clear(d.last)
}

// operate counts an operation, and tells whether the fuse cuts it.
func (d *Disk) operate() api.Errno {
	d.ops++
	switch d.fuse {
	case noFuse:
		return api.OK
	case 0:
		d.down = true
		return api.ErrDown
	}
	d.fuse--
	return api.OK
}

// ready tells why the disk executes nothing.
func (d *Disk) ready() api.Errno {
	if !d.made() {
		return api.ErrNil
	}
	if d.down {
		return api.ErrDown
	}
	return api.OK
}
