package asm

import (
	"strings"

	"orrery/api"
)

// walk: what both walks are: does something with line by line, up to that of the end; at the first one that fails its number and the error.
func walk(source string, do func(number int, line Line) api.Errno) (int, api.Errno) {
	for number, text := range strings.Split(source, "\n") {
		line, _, e := Split(text)
		if e == api.OK {
			e = do(number, line)
		}
		if e != api.OK {
			return number, e
		}
		if line.Kind == Directive && line.Word == dotEnd {
			break
		}
	}
	return 0, api.OK
}
