package hexfile

import "orrery/api"

// The kinds of Motorola's records.
const (
	motorolaHead  = 0
	motorolaData  = 1
	motorolaCount = 5
	motorolaEnd   = 9
)

// motorolaRest: the bytes of a record that its count tells beside its data: the place and the sum.
const motorolaRest = 3

func fitsMotorola(r record) bool {
	switch r.kind {
	case motorolaData:
		return true
	case motorolaHead:
		return r.at == 0
	case motorolaCount, motorolaEnd:
		return len(r.data) == 0
	}
	return false
}

func textOfMotorola(r record) string {
	list := append(counted(len(r.data)+motorolaRest, r.at), r.data...)
	return "S" + oneDigit(byte(r.kind)) + inDigits(append(list, byte(255-total(list))))
}

func splitMotorola(line string) (record, api.Errno) {
	kind, there := motorolaKind(line)
	if !there {
		return record{}, api.ErrRecord
	}
	list, whole := bytesOf(line[2:])
	if !whole || len(list) < 1+motorolaRest || len(list) != 1+int(list[0]) {
		return record{}, api.ErrRecord
	}
	if byte(total(list)) != 255 {
		return record{}, api.ErrSum
	}
	return record{kind, numberOf(list[1:3]), list[3 : len(list)-1]}, api.OK
}

// motorolaKind: the digit that stands ahead of the count; false, if it is no kind's.
func motorolaKind(line string) (int, bool) {
	if len(line) < 2 {
		return 0, false
	}
	switch line[1] {
	case '0', '1', '5', '9':
		return int(line[1] - '0'), true
	}
	return 0, false
}

func tailOfMotorola(count, entry int) []record {
	return []record{{kind: motorolaCount, at: round(count)}, {kind: motorolaEnd, at: max(entry, 0)}}
}

func takeMotorola(to *reading, r record) api.Errno {
	switch r.kind {
	case motorolaHead:
		return to.first()
	case motorolaCount:
		return to.agree(r.at)
	case motorolaEnd:
		to.ended = true
		return to.enter(r.at)
	}
	return to.lay(r)
}
