package hexfile

import "orrery/api"

// The kinds of MOS Technology's records.
const (
	mosData = 0
	mosEnd  = 1
)

// mosRest: the bytes of a record beside its data: the count, the place, the sum of two bytes.
const mosRest = 5

func fitsMos(r record) bool {
	switch r.kind {
	case mosData:
		return len(r.data) > 0
	case mosEnd:
		return len(r.data) == 0
	}
	return false
}

func textOfMos(r record) string {
	list := append(counted(len(r.data), r.at), r.data...)
	return ";" + inDigits(append(list, twoBytes(total(list))...))
}

func splitMos(line string) (record, api.Errno) {
	list, whole := bytesOf(line[1:])
	if !whole || len(list) < mosRest || len(list) != int(list[0])+mosRest {
		return record{}, api.ErrRecord
	}
	end := len(list) - 2
	if round(total(list[:end])) != numberOf(list[end:]) {
		return record{}, api.ErrSum
	}
	kind := mosData
	if list[0] == 0 {
		kind = mosEnd
	}
	return record{kind, numberOf(list[1:3]), list[3:end]}, api.OK
}

func takeMos(to *reading, r record) api.Errno {
	if r.kind == mosEnd {
		to.ended = true
		return to.agree(r.at)
	}
	return to.lay(r)
}
