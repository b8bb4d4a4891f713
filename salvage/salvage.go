// Package salvage: files, and how they come back: see DOC.md.
package salvage

import (
	"salvage/api"
	"salvage/field"
	"salvage/fileset"
)

// Times multiplies two numbers of the field (P3).
func Times(a uint16, b uint16) uint16 { return field.Times(a, b) }

// Create makes the packets of some files (P4).
func Create(files []api.File, slice int, extra int) ([]string, api.Errno) {
	if !fileset.IsSliceSize(slice) || extra < 0 || extra > api.MaxExtra {
		return nil, api.ErrArg
	}
	if !fileset.IsSet(files) {
		return nil, api.ErrFile
	}
	if count := fileset.CountSlices(files, slice); count < 1 || count > api.MaxSlices {
		return nil, api.ErrFile
	}
	return makePackets(files, slice, extra), api.OK
}

// Look tells what is left (P6).
func Look(files []api.File, volumes []string) (api.Report, api.Errno) {
	left, errno := gather(files, volumes)
	if errno != api.OK {
		return api.Report{}, errno
	}
	return left.report(files), api.OK
}

// Repair makes files anew (P7).
func Repair(files []api.File, volumes []string) ([]api.File, api.Errno) {
	left, errno := gather(files, volumes)
	if errno != api.OK {
		return nil, errno
	}
	return left.repair()
}
