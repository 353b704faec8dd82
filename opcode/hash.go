package opcode

import "orrery/api"

// The pair by which no two mnemonics have one hash: the first such pair of all.
const (
	pairP = 7
	pairQ = 79
)

const hashes = 256

// Hash: F18.3.
func Hash(text string, p, q int) (int, api.Errno) {
	if !isThreeCapitals(text) || !isFactor(p) || !isFactor(q) {
		return 0, api.ErrArg
	}
	return hashOf(text, p, q), api.OK
}

func isThreeCapitals(text string) bool {
	if len(text) != letters {
		return false
	}
	for i := range letters {
		if text[i] < 'A' || text[i] > 'Z' {
			return false
		}
	}
	return true
}

func isFactor(number int) bool { return 0 <= number && number < hashes }

func hashOf(text string, p, q int) int {
	return (letter(text[0]) + p*letter(text[1]) + q*letter(text[2])) % hashes
}

func letter(capital byte) int { return int(capital - 'A') }

// Pair: F18.3.
func Pair() (p, q int) { return pairP, pairQ }

// byHash: at each hash the mnemonic that has it.
func byHash() [hashes]byte {
	var at [hashes]byte
	for mnemonic := adc; mnemonic <= mnemonics; mnemonic++ {
		at[hashOf(nameOf(mnemonic), pairP, pairQ)] = byte(mnemonic)
	}
	return at
}

// find: the mnemonic of that name. Only one can have its hash, so that no other name has to be held against it.
func find(folded string) int {
	hash, e := Hash(folded, pairP, pairQ)
	if e != api.OK {
		return none
	}
	mnemonic := int(byHash()[hash])
	if nameOf(mnemonic) != folded {
		return none
	}
	return mnemonic
}
