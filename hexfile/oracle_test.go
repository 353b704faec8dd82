package hexfile_test

import (
	"encoding/hex"
	"fmt"
	"regexp"
	"strings"

	"orrery/api"
)

// may: has the format such a kind, with such a place and such data? By the chapter's words.
func may(format, kind, place int, data []byte) bool {
	if place < 0 || place > 65535 {
		return false
	}
	none := len(data) == 0
	switch [2]int{format, kind} {
	case [2]int{1, 0}:
		return len(data) <= 255
	case [2]int{1, 1}:
		return place == 0 && none
	case [2]int{1, 3}:
		return place == 0 && len(data) == 4 && data[0] == 0 && data[1] == 0
	case [2]int{2, 0}:
		return place == 0 && len(data) <= 252
	case [2]int{2, 1}:
		return len(data) <= 252
	case [2]int{2, 5}, [2]int{2, 9}, [2]int{3, 1}:
		return none
	case [2]int{3, 0}:
		return !none && len(data) <= 255
	}
	return false
}

func sumOf(b []byte) int {
	n := 0
	for _, x := range b {
		n += int(x)
	}
	return n
}

// unchecked: a line of that format, with a right sum, be the record one or none.
func unchecked(format, kind, place int, data []byte) string {
	body := func(ahead string) []byte {
		b, err := hex.DecodeString(ahead)
		if err != nil {
			panic(err)
		}
		return append(b, data...)
	}
	switch format {
	case 1:
		b := body(fmt.Sprintf("%02x%04x%02x", len(data), place, kind))
		return fmt.Sprintf(":%X%02X", b, (256-sumOf(b)%256)%256)
	case 2:
		b := body(fmt.Sprintf("%02x%04x", len(data)+3, place))
		return fmt.Sprintf("S%d%X%02X", kind, b, 255-sumOf(b)%256)
	}
	b := body(fmt.Sprintf("%02x%04x", len(data), place))
	return fmt.Sprintf(";%X%04X", b, sumOf(b)%65536)
}

var shape = regexp.MustCompile(`^(:|S[0159]|;)((?:[0-9A-Fa-f]{2})+)$`)

// splitAgain: the record that a line is, by a second reading of the chapter's words.
func splitAgain(line string) (format, kind, place int, data []byte, e api.Errno) {
	m := shape.FindStringSubmatch(line)
	if m == nil {
		return 0, 0, 0, nil, api.ErrRecord
	}
	b, err := hex.DecodeString(m[2])
	if err != nil {
		panic(err)
	}
	format = map[byte]int{':': 1, 'S': 2, ';': 3}[line[0]]
	long := map[int]int{1: 1 + 2 + 1 + int(b[0]) + 1, 2: 1 + int(b[0]), 3: 1 + 2 + int(b[0]) + 2}[format]
	if len(b) != long || format == 2 && b[0] < 3 {
		return 0, 0, 0, nil, api.ErrRecord
	}
	place = int(b[1])*256 + int(b[2])
	right := false
	switch format {
	case 1:
		kind, data, right = int(b[3]), b[4:long-1], sumOf(b)%256 == 0
	case 2:
		kind, data, right = int(line[1]-'0'), b[3:long-1], sumOf(b)%256 == 255
	case 3:
		data, right = b[3:long-2], sumOf(b[:long-2])%65536 == int(b[long-2])*256+int(b[long-1])
		if b[0] == 0 {
			kind = 1
		}
	}
	if !right {
		return 0, 0, 0, nil, api.ErrSum
	}
	if !may(format, kind, place, data) {
		return 0, 0, 0, nil, api.ErrRecord
	}
	return format, kind, place, data, api.OK
}

// readAgain: a text, by a second reading of the chapter's words.
func readAgain(text string) (file, int, api.Errno) {
	if len(text) > 1048576 {
		return file{}, 0, api.ErrBig
	}
	all := strings.Split(text, "\n")
	var told []string // of each record its format and its kind
	memory := map[int]byte{}
	data, entry := 0, -1
	for n, line := range all {
		line = strings.Trim(line, " \t\r")
		if line == "" {
			continue
		}
		if len(told) > 0 && strings.Contains("1/1 2/9 3/1", told[len(told)-1]) {
			return file{}, n, api.ErrMore
		}
		format, kind, place, b, e := splitAgain(line)
		if e != api.OK {
			return file{}, n, e
		}
		this := fmt.Sprintf("%d/%d", format, kind)
		switch {
		case len(told) > 0 && told[0][0] != this[0],
			(this == "2/5" || this == "3/1") && place != data%65536,
			this == "2/0" && len(told) > 0,
			this == "1/3" && strings.Contains(strings.Join(told, " "), "1/3"):
			return file{}, n, api.ErrRecord
		}
		told = append(told, this)
		switch this {
		case "1/3":
			entry = int(b[2])*256 + int(b[3])
		case "2/9":
			entry = place
		case "1/0", "2/1", "3/0":
			data++
			if place+len(b) > 65536 {
				return file{}, n, api.ErrRange
			}
			for i := range b {
				if _, there := memory[place+i]; there {
					return file{}, n, api.ErrOver
				}
				memory[place+i] = b[i]
			}
		}
	}
	if len(told) == 0 || !strings.Contains("1/1 2/9 3/1", told[len(told)-1]) {
		return file{}, len(all), api.ErrEnds
	}
	var l segments
	for place := range 65536 {
		if b, there := memory[place]; there {
			l = append(l, at(place, b))
		}
	}
	merged, _ := mergedByPlaces(l)
	return file{int(told[0][0] - '0'), merged, entry}, 0, api.OK
}

// writeAgain: a file of which Write tells no error, by a second reading of the chapter's words.
func writeAgain(f file, width int) string {
	merged, _ := mergedByPlaces(f.Segments)
	var told []string
	data := 0
	for _, s := range merged {
		place, left := s.At, s.Bytes
		for len(left) > 0 {
			n := min(width, len(left))
			told = append(told, unchecked(f.Format, map[int]int{1: 0, 2: 1, 3: 0}[f.Format], place, left[:n]))
			data, place, left = data+1, place+n, left[n:]
		}
	}
	switch f.Format {
	case 1:
		if f.Entry >= 0 {
			told = append(told, unchecked(1, 3, 0, []byte{0, 0, byte(f.Entry / 256), byte(f.Entry % 256)}))
		}
		told = append(told, ":00000001FF")
	case 2:
		told = append([]string{"S0030000FC"}, told...)
		told = append(told, unchecked(2, 5, data%65536, nil), unchecked(2, 9, max(0, f.Entry), nil))
	case 3:
		told = append(told, unchecked(3, 1, data%65536, nil))
	}
	return lines(told...)
}
