package journal

import (
	"strings"

	"sheaf/api"
	"sheaf/disk"
	"sheaf/pack"
	"sheaf/super"
)

// areaAt is the first sector of the area: the ones ahead of it are for superblocks.
const areaAt = 2

func Load(d *disk.Disk, journal, used int) (string, api.Errno) {
	if e := refuses(d, journal, used); e != api.OK {
		return "", e
	}
	if d.Down() {
		return "", api.ErrDown
	}
	var b strings.Builder
	for i := range super.Need(used) {
		sector, e := d.Read(areaAt + i)
		if e != api.OK {
			return "", e
		}
		b.WriteString(sector)
	}
	return b.String()[:used], api.OK
}

func Append(d *disk.Disk, journal, used int, s string) (int, api.Errno) {
	if e := refuses(d, journal, used); e != api.OK {
		return 0, e
	}
	if len(s) > journal*api.Sector-used {
		return 0, api.ErrFull
	}
	if d.Down() {
		return 0, api.ErrDown
	}
	// Behind an area that is full there need not be a sector to be read.
	if s == "" {
		return used, api.OK
	}
	if e := writeFrom(d, areaAt+used/api.Sector, used%api.Sector, s); e != api.OK {
		return 0, e
	}
	return used + len(s), api.OK
}

// writeFrom writes s from a byte of a sector on. What is ahead of this byte is written once more, as it is.
func writeFrom(d *disk.Disk, sector, ahead int, s string) api.Errno {
	old, e := d.Read(sector)
	if e != api.OK {
		return e
	}
	s = old[:ahead] + s
	n := super.Need(len(s))
	s = pack.Fill(s, n*api.Sector)
	for i := range n {
		if e := d.Write(sector+i, s[i*api.Sector:][:api.Sector]); e != api.OK {
			return e
		}
	}
	return api.OK
}

// refuses tells why a disk has no such area, or the area not so many bytes. No disk that was created is without
// sectors. The number of bytes is computed of a journal that is bounded.
func refuses(d *disk.Disk, journal, used int) api.Errno {
	if d.Len() == 0 {
		return api.ErrNil
	}
	if journal < 1 || journal > d.Len()-areaAt || used < 0 || used > journal*api.Sector {
		return api.ErrArg
	}
	return api.OK
}
