package config

import "castellan/api"

const (
	leastJournal = 4 // blocks
	noCells      = 3 // blocks of a journal that hold no cell of a transaction: two heads, and a record's first one
	bootSectors  = 2
)

func (f *form) diskHolds() bool {
	return isWithin(f.Sectors, 1, api.MaxSectors) && f.volumesHold() && f.auditHolds() && f.bootHolds() && f.extentsApart()
}

func (f *form) volumesHold() bool {
	return len(f.Volumes) <= api.MaxVolumes && all(f.Volumes, f.volumeHolds) && f.volumesUnlike()
}

// volumeHolds wants that all cells of a volume can be changed by one transaction, for which the journal has room.
func (f *form) volumeHolds(v api.Volume) bool {
	return f.isLevel(v.Level) && f.extentHolds(v) && v.Count-v.Journal <= min(api.MaxWrites, v.Journal-noCells)
}

// volumesUnlike tells whether no two are of the same level.
func (f *form) volumesUnlike() bool {
	for i, v := range f.Volumes {
		for _, w := range f.Volumes[:i] {
			if v.Level == w.Level {
				return false
			}
		}
	}
	return true
}

// extentHolds tells whether an extent lies on the disk, and its journal within. (First and Count together may be more than an int holds; Sectors less a Count of 1 or above never is less than that.)
func (f *form) extentHolds(v api.Volume) bool {
	return v.Count >= 1 && isWithin(v.First, 0, f.Sectors-v.Count) && isWithin(v.Journal, leastJournal, v.Count-1)
}

func (f *form) auditHolds() bool {
	return f.Audit.Level == 0 && f.extentHolds(f.Audit)
}

func (f *form) bootHolds() bool {
	return isWithin(f.Boot, 0, f.Sectors-bootSectors)
}

// extentsApart tells whether no sector is of two of them, of which all lie on the disk.
func (f *form) extentsApart() bool {
	var taken [api.MaxSectors]bool
	for _, v := range append([]api.Volume{f.Audit, {First: f.Boot, Count: bootSectors}}, f.Volumes...) {
		for i := range v.Count {
			if taken[v.First+i] {
				return false
			}
			taken[v.First+i] = true
		}
	}
	return true
}
