package salvage_test

import (
	"encoding/binary"
	"slices"
	"strings"

	"salvage/api"
)

// P5 and P6 written a second time: packets are known by writing them anew, and
// all else is searched from end to end, without a map.

type refFound struct {
	kind string
	set  uint64
	body string
}

// refBegin answers the right packet that a text begins with.
func refBegin(text string) (refFound, bool) {
	if len(text) < 22 || !slices.Contains([]string{"M", "F", "R"}, text[3:4]) {
		return refFound{}, false
	}
	end := 14 + int(binary.BigEndian.Uint16([]byte(text[12:])))
	if end+8 > len(text) {
		return refFound{}, false
	}
	found := refFound{text[3:4], binary.BigEndian.Uint64([]byte(text[4:])), text[14:end]}
	return found, refPacket(found.kind, found.set, found.body) == text[:end+8]
}

// refFind answers the right packets in volumes.
func refFind(volumes []string) []refFound {
	all := []refFound{}
	for _, rest := range volumes {
		for rest != "" {
			if found, right := refBegin(rest); right {
				all = append(all, found)
				rest = rest[22+len(found.body):]
			} else {
				rest = rest[1:]
			}
		}
	}
	return all
}

// refSet answers the M packet's body that says which set it is.
func refSet(all []refFound) (string, bool) {
	for _, found := range all {
		body := found.body
		if found.kind == "M" && found.set == refHash(body) && len(body) >= 3 && body[0] == 0 &&
			strings.IndexByte("\x02\x04\x06\x08\x0a\x0c\x0e\x10\x12\x14\x16\x18\x1a\x1c\x1e\x20", body[1]) >= 0 &&
			slices.Contains([]int{11, 19, 27, 35, 43, 51}, len(body)) && len(body) == 3+8*int(body[2]) {
			return body, true
		}
	}
	return "", false
}

type refFile struct {
	name   string
	length int
	hash   uint64
	slices []uint64
}

// refReadFile answers file i of the set, if a body is that of its F packet.
func refReadFile(main string, i int, body string) (refFile, bool) {
	wanted := binary.BigEndian.Uint64([]byte(main[3+8*i:]))
	if len(body) < 12 || int(body[0]) != i || refHash(body) != wanted {
		return refFile{}, false
	}
	names := int(body[1])
	if names == 0 || names > 20 || len(body) < 12+names {
		return refFile{}, false
	}
	rest := []byte(body[2+names:])
	file := refFile{body[2 : 2+names], int(binary.BigEndian.Uint16(rest)), binary.BigEndian.Uint64(rest[2:]), nil}
	count := 0
	for covered := 0; covered < file.length; covered += int(main[1]) {
		count++
	}
	if file.length > 400 || len(rest) != 10+8*count {
		return refFile{}, false
	}
	for k := range count {
		file.slices = append(file.slices, binary.BigEndian.Uint64(rest[10+8*k:]))
	}
	return file, true
}

// refFiles answers the files of the set, and whether all are told and can be
// one set.
func refFiles(all []refFound, main string) ([]refFile, bool) {
	files, count := []refFile{}, 0
	for i := range int(main[2]) {
		at := slices.IndexFunc(all, func(found refFound) bool {
			_, right := refReadFile(main, i, found.body)
			return right && found.kind == "F" && found.set == refHash(main)
		})
		if at < 0 {
			return nil, false
		}
		file, _ := refReadFile(main, i, all[at].body)
		for _, other := range files {
			if other.name == file.name {
				return nil, false
			}
		}
		files = append(files, file)
		count += len(file.slices)
	}
	return files, count >= 1 && count <= 60
}

// refExtras answers the bodies of the R packets that count, the least numbers
// first.
func refExtras(all []refFound, main string) []string {
	bodies := []string{}
	for number := range 20 {
		at := slices.IndexFunc(all, func(found refFound) bool {
			return found.kind == "R" && found.set == refHash(main) && len(found.body) == 2+int(main[1]) &&
				strings.HasPrefix(found.body, string([]byte{0, byte(number)}))
		})
		if at >= 0 {
			bodies = append(bodies, all[at].body)
		}
	}
	return bodies
}

// refPiece answers the first piece in the files that has a hash, and whether
// there is one.
func refPiece(files []api.File, size int, hash uint64) (string, bool) {
	for _, file := range files {
		for rest := file.Data; rest != ""; rest = rest[1:] {
			piece := (rest + strings.Repeat("\x00", 32))[:size]
			if refHash(piece) == hash {
				return piece, true
			}
		}
	}
	return "", false
}

// refState answers the state of a file of the set.
func refState(files []api.File, file refFile) int {
	at := slices.IndexFunc(files, func(other api.File) bool { return other.Name == file.name })
	switch {
	case at < 0:
		return 3
	case len(files[at].Data) == file.length && refHash(files[at].Data) == file.hash:
		return 1
	}
	return 2
}

// refTooMuch tells whether more is handed in than may be.
func refTooMuch(files []api.File, volumes []string) bool {
	return len(files) > 12 || len(volumes) > 40 ||
		slices.ContainsFunc(files, func(file api.File) bool { return len(file.Data) > 400 }) ||
		slices.ContainsFunc(volumes, func(volume string) bool { return len(volume) > 4000 })
}

// refLook answers what Look must.
func refLook(files []api.File, volumes []string) (api.Report, api.Errno) {
	if refTooMuch(files, volumes) {
		return api.Report{}, 1
	}
	all := refFind(volumes)
	main, known := refSet(all)
	if !known {
		return api.Report{}, 3
	}
	listed, right := refFiles(all, main)
	if !right {
		return api.Report{}, 4
	}
	report := api.Report{Extra: len(refExtras(all, main))}
	for _, file := range listed {
		report.States = append(report.States, refState(files, file))
		for _, hash := range file.slices {
			_, present := refPiece(files, int(main[1]), hash)
			report.Present = append(report.Present, present)
			if !present {
				report.Lost++
			}
		}
	}
	return report, 0
}
