package opcode

const opcodes = 256

// Where the parts of a word of the table begin.
const (
	modeBit  = 8
	baseBit  = 12
	extraBit = 16
	hashBit  = 24
)

// Words: F18.1, as the calls tell it.
func Words() []uint32 {
	words := make([]uint32, opcodes)
	for op := range words {
		words[op] = toldOf(byte(op))
	}
	p, q := Pair()
	for number, name := range Mnemonics() {
		hash, _ := Hash(name, p, q)
		words[hash] |= uint32(number+1) << hashBit
	}
	return words
}

// toldOf: the word of an opcode without its hash.
func toldOf(op byte) uint32 {
	name, mode, ok := Of(op)
	if !ok {
		return 0
	}
	number, _ := Number(name)
	base, extra, _ := Cycles(op)
	return uint32(number + 1 | mode<<modeBit | base<<baseBit | extra<<extraBit)
}

// Rule: F18.1, by the fields alone.
func Rule() []uint32 {
	words := make([]uint32, opcodes)
	for op, mnemonic := range byHash() {
		words[op] = wordOf(instructionOf(byte(op))) | uint32(mnemonic)<<hashBit
	}
	return words
}

func wordOf(in instruction) uint32 {
	if in.mnemonic == none {
		return 0
	}
	return uint32(in.mnemonic | in.mode<<modeBit | baseOf(in)<<baseBit | extraOf(in)<<extraBit)
}
