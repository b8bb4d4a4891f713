package salvage_test

import "salvage/api"

// P7 written a second time.

// refKnown answers the slices that are present, and as many R packets' slices
// as are lost, with their numbers.
func refKnown(files []api.File, size int, hashes []uint64, extras []string) ([]uint16, []string) {
	numbers, known := []uint16{}, []string{}
	for i, hash := range hashes {
		if piece, present := refPiece(files, size, hash); present {
			numbers, known = append(numbers, uint16(i)), append(known, piece)
		}
	}
	for len(known) < len(hashes) {
		numbers, known = append(numbers, uint16(len(hashes)+int(extras[0][1]))), append(known, extras[0][2:])
		extras = extras[1:]
	}
	return numbers, known
}

// refRepair answers what Repair must. It makes every slice by the polynomial:
// those that are present lie on it too.
func refRepair(files []api.File, volumes []string) ([]api.File, api.Errno) {
	report, errno := refLook(files, volumes)
	if errno != 0 {
		return nil, errno
	}
	if report.Lost > report.Extra {
		return nil, 5
	}
	all := refFind(volumes)
	main, _ := refSet(all)
	listed, _ := refFiles(all, main)
	hashes := []uint64{}
	for _, file := range listed {
		hashes = append(hashes, file.slices...)
	}
	numbers, known := refKnown(files, int(main[1]), hashes, refExtras(all, main))
	made, at := []api.File{}, uint16(0)
	for _, file := range listed {
		data := ""
		for range file.slices {
			data += refSlice(numbers, known, at)
			at++
		}
		data = data[:file.length]
		if refHash(data) != file.hash {
			return nil, 6
		}
		made = append(made, api.File{Name: file.name, Data: data})
	}
	return made, 0
}
