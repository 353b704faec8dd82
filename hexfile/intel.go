package hexfile

import "orrery/api"

// The kinds of Intel's records.
const (
	intelData  = 0
	intelEnd   = 1
	intelEntry = 3
)

// intelRest: the bytes of a record beside its data: the count, the place, the kind, the sum.
const intelRest = 5

func fitsIntel(r record) bool {
	switch r.kind {
	case intelData:
		return true
	case intelEnd:
		return r.at == 0 && len(r.data) == 0
	case intelEntry:
		return r.at == 0 && len(r.data) == 4 && r.data[0] == 0 && r.data[1] == 0
	}
	return false
}

func textOfIntel(r record) string {
	list := append(counted(len(r.data), r.at), byte(r.kind))
	list = append(list, r.data...)
	return ":" + inDigits(append(list, byte(-total(list))))
}

func splitIntel(line string) (record, api.Errno) {
	list, whole := bytesOf(line[1:])
	if !whole || len(list) < intelRest || len(list) != int(list[0])+intelRest {
		return record{}, api.ErrRecord
	}
	if byte(total(list)) != 0 {
		return record{}, api.ErrSum
	}
	return record{int(list[3]), numberOf(list[1:3]), list[4 : len(list)-1]}, api.OK
}

func tailOfIntel(_, entry int) []record {
	end := record{kind: intelEnd}
	if entry == nowhere {
		return []record{end}
	}
	return []record{{kind: intelEntry, data: append([]byte{0, 0}, twoBytes(entry)...)}, end}
}

func takeIntel(to *reading, r record) api.Errno {
	switch r.kind {
	case intelEntry:
		return to.enter(numberOf(r.data[2:]))
	case intelEnd:
		to.ended = true
		return api.OK
	}
	return to.lay(r)
}
