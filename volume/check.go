package volume

import "castellan/api"

// A check tells why a call is refused, if it is.
type check func() api.Errno

// refusal is what the first check tells that refuses. Each is asked only if those ahead of it let the call pass.
func refusal(checks ...check) api.Errno {
	for _, c := range checks {
		if e := c(); e != api.OK {
			return e
		}
	}
	return api.OK
}

// unless is an error if something does not hold.
func unless(holds bool, e api.Errno) api.Errno {
	if holds {
		return api.OK
	}
	return e
}

func (v *Volume) isAlive() api.Errno {
	return unless(!v.Dead(), api.ErrDead)
}

func isPath(path string) check {
	return func() api.Errno { return unless(Path(path), api.ErrVolumePath) }
}

func (v *Volume) isThere(path string) check {
	return func() api.Errno {
		_, found := v.nodes.at(path)
		return unless(found, api.ErrVolumeNone)
	}
}

func (v *Volume) isFree(path string) check {
	return func() api.Errno {
		_, found := v.nodes.at(path)
		return unless(!found, api.ErrVolumeDone)
	}
}

func (v *Volume) isFile(path string) check {
	return v.isKind(path, false)
}

func (v *Volume) isDirectory(path string) check {
	return v.isKind(path, true)
}

// isKind refuses where nothing is, and what is of the other kind.
func (v *Volume) isKind(path string, dir bool) check {
	return func() api.Errno {
		n, found := v.nodes.at(path)
		if !found {
			return api.ErrVolumeNone
		}
		return unless(n.dir == dir, api.ErrVolumeKind)
	}
}

// hasParent refuses a path whose parent is not a directory.
func (v *Volume) hasParent(path string) check {
	return func() api.Errno {
		parent, _ := split(path)
		return v.isDirectory(parent)()
	}
}

func isNotRoot(path string) check {
	return func() api.Errno { return unless(path != root, api.ErrVolumeKind) }
}

func (v *Volume) isEmpty(path string) check {
	return func() api.Errno {
		for range v.nodes.in(path) {
			return api.ErrVolumeBusy
		}
		return api.OK
	}
}

// isWithin refuses a place that is not within a file, nor at its end.
func (v *Volume) isWithin(path string, at int) check {
	return func() api.Errno {
		return unless(at >= 0 && at <= len(v.nodes[path].data), api.ErrArg)
	}
}

func isCount(n int) check {
	return func() api.Errno { return unless(n >= 0, api.ErrArg) }
}

// isShort refuses data that make too long a file.
func isShort(at int, data string) check {
	return func() api.Errno { return unless(at+len(data) <= api.MaxFile, api.ErrVolumeLong) }
}
