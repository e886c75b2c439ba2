package disk

import (
	"slices"
	"strings"

	"wringer/api"
)

// isName tells whether an extent may be called so.
func isName(s string) bool { return len(s) >= 1 && len(s) <= api.MaxName }

// sectorsOf tells how many sectors an extent has.
func sectorsOf(x api.Extent) int { return len(x.Data) / api.SectorSize }

// extentsRight tells whether extents are right, and the disk has room for them.
func extentsRight(d api.Disk) bool {
	// No name is ahead of the empty one.
	ahead, left := "", d.Size
	for _, x := range d.Extents {
		if !isName(x.Name) || x.Name <= ahead {
			return false
		}
		many := sectorsOf(x)
		if many < 1 || many > left || len(x.Data)%api.SectorSize != 0 {
			return false
		}
		ahead, left = x.Name, left-many
	}
	return true
}

// waitsRight tells whether what waits is right, of a disk whose extents are.
func waitsRight(d api.Disk) bool {
	if len(d.Waits) > api.MaxWaits {
		return false
	}
	// Writes one behind the other are mostly to one extent: it is looked for once. None is called by the empty name.
	name, many := "", 0
	for _, one := range d.Waits {
		if one.Name != name {
			name, many = one.Name, manyOf(d, one.Name)
		}
		if one.Sector < 0 || one.Sector >= many || len(one.Data) != api.SectorSize {
			return false
		}
	}
	return true
}

// ready tells why nothing can be done with a disk.
func ready(d api.Disk) api.Errno {
	if e := Check(d); e != api.OK {
		return e
	}
	if d.Down {
		return api.ErrPower
	}
	return api.OK
}

// place tells where an extent stands, or would stand, and whether there is one.
func place(d api.Disk, name string) (int, bool) {
	return slices.BinarySearchFunc(d.Extents, name, func(x api.Extent, sought string) int {
		return strings.Compare(x.Name, sought)
	})
}

// manyOf tells how many sectors there are by a name: 0, if there is no extent of it.
func manyOf(d api.Disk, name string) int {
	at, is := place(d, name)
	if !is {
		return 0
	}
	return sectorsOf(d.Extents[at])
}

// find tells where the extent of a sector stands.
func find(d api.Disk, name string, sector int) (int, api.Errno) {
	at, is := place(d, name)
	if !is {
		return 0, api.ErrNone
	}
	if sector < 0 || sector >= sectorsOf(d.Extents[at]) {
		return 0, api.ErrRange
	}
	return at, api.OK
}

// seen tells what is seen of a sector that is there.
func seen(d api.Disk, at, sector int) string {
	x := d.Extents[at]
	for i := len(d.Waits) - 1; i >= 0; i-- {
		if one := d.Waits[i]; one.Sector == sector && one.Name == x.Name {
			return one.Data
		}
	}
	return x.Data[sector*api.SectorSize : (sector+1)*api.SectorSize]
}

// room tells how many sectors are in no extent.
func room(d api.Disk) int {
	left := d.Size
	for _, x := range d.Extents {
		left -= sectorsOf(x)
	}
	return left
}
