package stream

import (
	"slices"
	"strconv"
	"strings"

	"wringer/api"
)

const (
	tilde = "~"   // what the names of files on the way begin with
	first = 10000 // of the numbers of five digits, which are more than a disk has extents
)

// Spare tells a text that names of files on the way may begin with: a tilde and a number, as nobody's name does, on the disk or of the others that are told.
func Spare(d api.Disk, others ...string) string {
	for i := first; ; i++ {
		prefix := tilde + strconv.Itoa(i)
		isTaken := func(name string) bool { return strings.HasPrefix(name, prefix) }
		// Of all names the first one that is not ahead of a text begins with it, if any does.
		at, _ := place(d, prefix)
		if at < len(d.Extents) && isTaken(d.Extents[at].Name) || slices.ContainsFunc(others, isTaken) {
			continue
		}
		return prefix
	}
}
