package sink

import (
	"slices"
	"strconv"
	"strings"

	"weaver/api"
	"weaver/disk"
	"weaver/event"
	"weaver/pack"
)

// filePrefix is followed by a transaction's number in the name of its file.
const filePrefix = "t."

// transaction is what stands in a file, under its number.
type transaction struct {
	c       int
	matches []api.Match
}

// mayFollow holds of the numbers that a transaction may have behind the last one, which is 0 at first.
func mayFollow(last, c int) bool {
	return last < c && c <= api.MaxSeq
}

func fileName(c int) string {
	return filePrefix + strconv.Itoa(c)
}

// isFileName holds of any number, of those that no transaction has, too.
func isFileName(name string) bool {
	digits, ok := strings.CutPrefix(name, filePrefix)
	if !ok || digits == "" || digits != "0" && digits[0] == '0' {
		return false
	}
	return strings.Trim(digits, "0123456789") == ""
}

// numbersAbove goes by the numbers' order, which is not that of their names.
func numbersAbove(d *disk.Disk, last int) []int {
	var l []int
	for _, name := range d.Names() {
		if !isFileName(name) {
			continue
		}
		c, err := strconv.Atoi(name[len(filePrefix):])
		if err == nil && mayFollow(last, c) {
			l = append(l, c)
		}
	}
	slices.Sort(l)
	return l
}

func removeAll(d *disk.Disk) api.Errno {
	for _, name := range d.Names() {
		if !isFileName(name) {
			continue
		}
		if e := d.Remove(name); e != api.OK {
			return e
		}
	}
	return d.Sync()
}

func fileBytes(matches []string) (string, api.Errno) {
	var l []api.Item
	for _, b := range matches {
		l = append(l, api.Item{Text: true, S: b})
	}
	b, e := pack.Encode(l)
	if e != api.OK {
		return "", e
	}
	return pack.Frame(b)
}

// writeAnew removes the file first: a write into the old bytes would leave their end behind the new ones.
func writeAnew(d *disk.Disk, name, b string) api.Errno {
	if e := d.Remove(name); e != api.OK && e != api.ErrNone {
		return e
	}
	if e := d.Write(name, 0, b); e != api.OK {
		return e
	}
	return d.Sync()
}

// readTransaction is asked of files that are there: what can not be read is empty, and corrupt as such.
func readTransaction(d *disk.Disk, c int) (transaction, api.Errno) {
	b, _ := d.Read(fileName(c))
	body, end, f := pack.Unframe(b, 0)
	if f != (api.Fault{}) || end != len(b) {
		return transaction{}, api.ErrCorrupt
	}
	l, f := pack.Decode(body)
	if f != (api.Fault{}) {
		return transaction{}, api.ErrCorrupt
	}
	t := transaction{c: c}
	for _, x := range l {
		m, e := event.DecodeMatch(x.S)
		if e != api.OK {
			return transaction{}, api.ErrCorrupt
		}
		t.matches = append(t.matches, m)
	}
	return t, api.OK
}
