package server

import (
	"strings"

	"castellan/api"
	"castellan/code"
	"castellan/volume"
)

const (
	mostNames = 200 // bytes of a list's reply
	nameEnd   = "\n"
)

// What stat tells of what is at a path.
const (
	statFile = 1 + iota
	statDir
)

// kind is what all requests of one kind have in common.
type kind struct {
	rest  func(*request, *code.Reader) // reads what stands behind the path
	looks bool                         // it changes nothing, so that a level that flows to the partition's own may be asked
	do    func(request, *volume.Volume) (string, api.Errno)
}

// kindOf is the kind with a number; false, if there is none.
func kindOf(n int) (kind, bool) {
	kinds := [...]kind{
		1: {(*request).nothing, false, request.mkdir},
		2: {(*request).nothing, false, request.create},
		3: {(*request).placeAndData, false, request.write},
		4: {(*request).nothing, false, request.remove},
		5: {(*request).otherPath, false, request.rename},
		6: {(*request).placeAndCount, true, request.read},
		7: {(*request).place, true, request.list},
		8: {(*request).nothing, true, request.stat},
		9: {(*request).nothing, false, request.sync},
	}
	if n < 1 || n >= len(kinds) {
		return kind{}, false
	}
	return kinds[n], true
}

func (q request) mkdir(v *volume.Volume) (string, api.Errno) {
	return "", v.Mkdir(q.path)
}

func (q request) create(v *volume.Volume) (string, api.Errno) {
	return "", v.Create(q.path)
}

func (q request) write(v *volume.Volume) (string, api.Errno) {
	return "", v.Write(q.path, q.at, q.data)
}

func (q request) remove(v *volume.Volume) (string, api.Errno) {
	return "", v.Remove(q.path)
}

func (q request) rename(v *volume.Volume) (string, api.Errno) {
	return "", v.Rename(q.path, q.other)
}

func (q request) read(v *volume.Volume) (string, api.Errno) {
	return v.Read(q.path, q.at, q.count)
}

func (q request) list(v *volume.Volume) (string, api.Errno) {
	names, e := v.List(q.path)
	return lines(names[min(q.at, len(names)):]), e
}

func (q request) stat(v *volume.Volume) (string, api.Errno) {
	dir, size, e := v.Stat(q.path)
	if e != api.OK {
		return "", e
	}
	what := statFile
	if dir {
		what = statDir
	}
	return code.Put(what, 1) + code.Put(size, 2), api.OK
}

func (q request) sync(v *volume.Volume) (string, api.Errno) {
	return "", v.Sync()
}

// lines are as many names, from the first one on, as there is room for.
func lines(names []string) string {
	var b strings.Builder
	for _, name := range names {
		if b.Len()+len(name)+len(nameEnd) > mostNames {
			break
		}
		b.WriteString(name + nameEnd)
	}
	return b.String()
}
