package hexfile

import "orrery/api"

// record: what a line tells, whatever its format.
type record struct {
	kind, at int
	data     []byte
}

// format: what each of the three does its own way.
type format struct {
	most    int  // data bytes of a record
	data    int  // the kind of data records
	entered bool // has it a record that tells the entry?
	fits    func(r record) bool
	text    func(r record) string
	split   func(line string) (record, api.Errno)
	head    func() []record
	tail    func(count, entry int) []record
	take    func(to *reading, r record) api.Errno
}

// formats: the three, by their numbers; whoever goes through many records makes the table once, and hands it on.
func formats() []format {
	return []format{
		Intel: {
			most: 255, data: intelData, entered: true,
			fits: fitsIntel, text: textOfIntel, split: splitIntel,
			head: func() []record { return nil },
			tail: tailOfIntel, take: takeIntel,
		},
		Motorola: {
			most: 252, data: motorolaData, entered: true,
			fits: fitsMotorola, text: textOfMotorola, split: splitMotorola,
			head: func() []record { return []record{{kind: motorolaHead}} },
			tail: tailOfMotorola, take: takeMotorola,
		},
		Mos: {
			most: 255, data: mosData, entered: false,
			fits: fitsMos, text: textOfMos, split: splitMos,
			head: func() []record { return nil },
			tail: func(count, _ int) []record { return []record{{kind: mosEnd, at: round(count)}} },
			take: takeMos,
		},
	}
}

func isFormat(number int) bool { return number >= Intel && number <= Mos }

// formatOf: by the first byte; 0, if there is none.
func formatOf(line string) int {
	if line == "" {
		return 0
	}
	switch line[0] {
	case ':':
		return Intel
	case 'S':
		return Motorola
	case ';':
		return Mos
	}
	return 0
}

// has: is it a record of this format?
func (f format) has(r record) bool {
	return isPlace(r.at) && len(r.data) <= f.most && f.fits(r)
}

func isPlace(at int) bool { return at >= 0 && at < api.MaxMemory }

// round: how many there are, as the place of a record tells it.
func round(count int) int { return count % api.MaxMemory }

// split: a line's format, and the record that it is.
func split(table []format, line string) (int, record, api.Errno) {
	number := formatOf(line)
	if !isFormat(number) {
		return 0, record{}, api.ErrRecord
	}
	f := table[number]
	r, e := f.split(line)
	if e != api.OK {
		return 0, record{}, e
	}
	if !f.has(r) {
		return 0, record{}, api.ErrRecord
	}
	return number, r, api.OK
}
