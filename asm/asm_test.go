package asm_test

import (
	"math"
	"slices"
	"strconv"
	"strings"
	"testing"

	"halter/api"
	"halter/asm"
	"halter/isa"
)

// noOperations are numbers of none; most are an operation modulo 2^8, 2^16 or 2^32.
var noOperations = []int{
	math.MinInt, math.MinInt + 1, -1 << 32, 1 - 1<<32, math.MinInt32, -65535, -256, -255, -215, -43, -42, -41, -2, -1,
	42, 43, 44, 63, 64, 83, 127, 128, 255, 256, 257, 297, 298, 1 << 16, 1<<16 + 41, math.MaxInt32, 1 << 31, 1 << 32, 1<<32 + 1, 1<<32 + 41,
	math.MaxInt - 1, math.MaxInt,
}

// noRegisters are numbers of none; most are a register modulo 2^4, 2^8, 2^16 or 2^32.
var noRegisters = []int{
	math.MinInt, -1 << 32, math.MinInt32, -256, -17, -16, -15, -2, -1,
	16, 17, 31, 32, 100, 150, 255, 256, 1 << 16, math.MaxInt32, 1 << 31, 1 << 32, 1<<32 + 15, math.MaxInt,
}

// noImms are numbers too small or too great; most are another one modulo 2^16 or 2^32.
var noImms = []int{
	math.MinInt, -1 << 32, math.MinInt32, -65541, -65537, -65536, -65535, -32770, -32769,
	32768, 32769, 65531, 65535, 65536, 65537, math.MaxInt32, 1 << 31, 1 << 32, 1<<32 + 1, math.MaxInt,
}

// imms are the edges of Imm, those of its bytes, and some between.
var imms = []int{
	-32768, -32767, -16384, -4660, -1000, -257, -256, -255, -100, -16, -10, -9, -5, -2, -1,
	0, 1, 2, 5, 9, 10, 15, 16, 99, 100, 255, 256, 1000, 4660, 10000, 16384, 32766, 32767,
}

// known are texts with exactly one space between their words, their instructions and numbers, all of it written out by hand.
var known = []struct {
	text string
	i    isa.Instr
	v    uint32
}{
	{"li r1 -5", isa.Instr{Op: isa.Li, A: 1, Imm: -5}, 0x0110fffb}, // the chapter's example
	{"nop", isa.Instr{}, 0},
	{"li r1 5", isa.Instr{Op: isa.Li, A: 1, Imm: 5}, 0x01100005},
	{"lui r15 -1", isa.Instr{Op: isa.Lui, A: 15, Imm: -1}, 0x02f0ffff},
	{"mov r0 r15", isa.Instr{Op: isa.Mov, B: 15}, 0x030f0000},
	{"add r2 r3", isa.Instr{Op: isa.Add, A: 2, B: 3}, 0x04230000},
	{"sub r3 r2", isa.Instr{Op: isa.Sub, A: 3, B: 2}, 0x05320000},
	{"mul r10 r11", isa.Instr{Op: isa.Mul, A: 10, B: 11}, 0x06ab0000},
	{"div r9 r10", isa.Instr{Op: isa.Div, A: 9, B: 10}, 0x079a0000},
	{"rem r1 r1", isa.Instr{Op: isa.Rem, A: 1, B: 1}, 0x08110000},
	{"and r4 r5", isa.Instr{Op: isa.And, A: 4, B: 5}, 0x09450000},
	{"or r5 r4", isa.Instr{Op: isa.Or, A: 5, B: 4}, 0x0a540000},
	{"xor r15 r0", isa.Instr{Op: isa.Xor, A: 15}, 0x0bf00000},
	{"shl r6 r7", isa.Instr{Op: isa.Shl, A: 6, B: 7}, 0x0c670000},
	{"shr r7 r6", isa.Instr{Op: isa.Shr, A: 7, B: 6}, 0x0d760000},
	{"sar r8 r9", isa.Instr{Op: isa.Sar, A: 8, B: 9}, 0x0e890000},
	{"addi r1 r2 32767", isa.Instr{Op: isa.Addi, A: 1, B: 2, Imm: 32767}, 0x0f127fff},
	{"cmp r0 r0", isa.Instr{Op: isa.Cmp}, 0x10000000},
	{"lb r1 r2 0", isa.Instr{Op: isa.Lb, A: 1, B: 2}, 0x11120000},
	{"lw r9 r6 -4660", isa.Instr{Op: isa.Lw, A: 9, B: 6, Imm: -0x1234}, 0x1296edcc},
	{"sb r15 r15 -32768", isa.Instr{Op: isa.Sb, A: 15, B: 15, Imm: -32768}, 0x13ff8000},
	{"sw r7 r8 4660", isa.Instr{Op: isa.Sw, A: 7, B: 8, Imm: 0x1234}, 0x14781234},
	{"jmp -256", isa.Instr{Op: isa.Jmp, Imm: -256}, 0x1500ff00},
	{"jz 1", isa.Instr{Op: isa.Jz, Imm: 1}, 0x16000001},
	{"jnz -1", isa.Instr{Op: isa.Jnz, Imm: -1}, 0x1700ffff},
	{"jlt 10", isa.Instr{Op: isa.Jlt, Imm: 10}, 0x1800000a},
	{"jge 0", isa.Instr{Op: isa.Jge}, 0x19000000},
	{"jc 100", isa.Instr{Op: isa.Jc, Imm: 100}, 0x1a000064},
	{"call 32767", isa.Instr{Op: isa.Call, Imm: 32767}, 0x1b007fff},
	{"jr r14", isa.Instr{Op: isa.Jr, A: 14}, 0x1ce00000},
	{"sys", isa.Instr{Op: isa.Sys}, 0x1d000000},
	{"brk", isa.Instr{Op: isa.Brk}, 0x1e000000},
	{"fld r3 r1 8", isa.Instr{Op: isa.Fld, A: 3, B: 1, Imm: 8}, 0x1f310008},
	{"fst r1 r3 -8", isa.Instr{Op: isa.Fst, A: 1, B: 3, Imm: -8}, 0x2013fff8},
	{"fadd r0 r1", isa.Instr{Op: isa.Fadd, B: 1}, 0x21010000},
	{"fsub r1 r0", isa.Instr{Op: isa.Fsub, A: 1}, 0x22100000},
	{"fmul r2 r3", isa.Instr{Op: isa.Fmul, A: 2, B: 3}, 0x23230000},
	{"fdiv r3 r2", isa.Instr{Op: isa.Fdiv, A: 3, B: 2}, 0x24320000},
	{"fsqrt r1 r2", isa.Instr{Op: isa.Fsqrt, A: 1, B: 2}, 0x25120000},
	{"fcmp r2 r1", isa.Instr{Op: isa.Fcmp, A: 2, B: 1}, 0x26210000},
	{"ftoi r12 r3", isa.Instr{Op: isa.Ftoi, A: 12, B: 3}, 0x27c30000},
	{"itof r3 r12", isa.Instr{Op: isa.Itof, A: 3, B: 12}, 0x283c0000},
	{"flags r13", isa.Instr{Op: isa.Flags, A: 13}, 0x29d00000},
}

// goods are valid instructions with nothing but the parts of their text: every A and B, and many an Imm.
func goods() []isa.Instr {
	var l []isa.Instr
	for _, f := range model {
		for a := range 16 {
			for b := range 16 {
				for _, imm := range imms {
					i := isa.Instr{Op: f.op, A: a, B: b, Imm: imm}
					if a > 0 && !strings.Contains(f.needs, "a") || b > 0 && !strings.Contains(f.needs, "b") || imm != 0 && !strings.Contains(f.needs, "i") {
						continue
					}
					l = append(l, i)
				}
			}
		}
	}
	return l
}

// text is an instruction as the chapter has it written, with the same words between any two words.
func text(i isa.Instr, between string) string {
	f := model[i.Op]
	s := f.name
	for _, letter := range f.needs {
		switch letter {
		case 'a':
			s += between + "r" + strconv.Itoa(i.A)
		case 'b':
			s += between + "r" + strconv.Itoa(i.B)
		case 'i':
			s += between + strconv.Itoa(i.Imm)
		}
	}
	return s
}

func wantText(t *testing.T, i isa.Instr, want string) {
	t.Helper()
	if s, err := asm.Text(i); s != want || err != nil {
		t.Fatalf("Text(%+v): %q, %v, want %q", i, s, err, want)
	}
}

func wantNoText(t *testing.T, i isa.Instr) {
	t.Helper()
	if s, err := asm.Text(i); s != "" || !is(err, api.ErrArg) {
		t.Fatalf("Text(%+v): %q, %v, want no text and %v", i, s, err, api.ErrArg)
	}
}

func wantParse(t *testing.T, s string, want isa.Instr) {
	t.Helper()
	if i, err := asm.Parse(s); i != want || err != nil {
		t.Fatalf("Parse(%q): %+v, %v, want %+v", s, i, err, want)
	}
}

func wantNoParse(t *testing.T, s string) {
	t.Helper()
	if i, err := asm.Parse(s); i != (isa.Instr{}) || !is(err, api.ErrArg) {
		t.Fatalf("Parse(%q): %+v, %v, want no instruction and %v", s, i, err, api.ErrArg)
	}
}

func TestAS1Name(t *testing.T) {
	for _, f := range model {
		if own := asm.Name(f.op); own != f.name {
			t.Errorf("Name(%d): %q, want %q", f.op, own, f.name)
		}
	}
	if len(model) != 42 || asm.Name(0) != "nop" || asm.Name(41) != "flags" || asm.Name(isa.Sar) != "sar" {
		t.Errorf("%d operations, from %q to %q", len(model), asm.Name(0), asm.Name(41))
	}
}

func TestAS1Needs(t *testing.T) {
	for _, f := range model {
		if own := asm.Needs(f.op); own != f.needs {
			t.Errorf("Needs(%d): %q, want %q", f.op, own, f.needs)
		}
	}
	if asm.Needs(isa.Addi) != "abi" || asm.Needs(isa.Flags) != "a" || asm.Needs(isa.Brk) != "" {
		t.Errorf("addi %q, flags %q, brk %q", asm.Needs(isa.Addi), asm.Needs(isa.Flags), asm.Needs(isa.Brk))
	}
}

func TestAS1NoOperation(t *testing.T) {
	for _, op := range noOperations {
		if name, needs := asm.Name(op), asm.Needs(op); name != "" || needs != "" {
			t.Errorf("operation %d: name %q, needs %q, want none", op, name, needs)
		}
	}
}

func TestAS1Text(t *testing.T) {
	if len(known) != 43 {
		t.Errorf("%d known texts, want one of each operation, and one of li more", len(known))
	}
	for _, c := range known {
		wantText(t, c.i, c.text)
	}
	for _, i := range goods() {
		wantText(t, i, text(i, " "))
	}
}

func TestAS1TextOfEveryImm(t *testing.T) {
	for imm := -33000; imm <= 33000; imm++ {
		i := isa.Instr{Op: isa.Addi, A: 3, B: 12, Imm: imm}
		if imm < -32768 || imm > 32767 {
			wantNoText(t, i)
			continue
		}
		wantText(t, i, "addi r3 r12 "+strconv.Itoa(imm))
	}
}

func TestAS1TextNotValid(t *testing.T) {
	for _, op := range noOperations {
		wantNoText(t, isa.Instr{Op: op})
		wantNoText(t, isa.Instr{Op: op, A: 1, B: 2, Imm: 3})
	}
	for op := range 42 {
		for _, n := range []int{0, 1, 15} {
			for _, bad := range noRegisters {
				wantNoText(t, isa.Instr{Op: op, A: bad, B: n})
				wantNoText(t, isa.Instr{Op: op, A: n, B: bad})
				wantNoText(t, isa.Instr{Op: op, A: bad, B: n, Imm: 7})
				wantNoText(t, isa.Instr{Op: op, A: n, B: bad, Imm: 7})
			}
			for _, bad := range noImms {
				wantNoText(t, isa.Instr{Op: op, A: n, B: n, Imm: bad})
				wantNoText(t, isa.Instr{Op: op, A: n, Imm: bad})
				wantNoText(t, isa.Instr{Op: op, Imm: bad})
			}
		}
	}
	wantNoText(t, isa.Instr{Op: -1, A: 16, B: -1, Imm: 32768})
	wantNoText(t, isa.Instr{Op: 41, A: 16, B: -1, Imm: 32768})
}

// A part that the text does not have is not 0, in one or more parts, whatever the others are.
func TestAS1TextOfMore(t *testing.T) {
	registers := []int{0, 1, 8, 15}
	for _, f := range model {
		for _, a := range registers {
			for _, b := range registers {
				for _, imm := range imms {
					i := isa.Instr{Op: f.op, A: a, B: b, Imm: imm}
					if a > 0 && !strings.Contains(f.needs, "a") || b > 0 && !strings.Contains(f.needs, "b") || imm != 0 && !strings.Contains(f.needs, "i") {
						wantNoText(t, i)
						continue
					}
					wantText(t, i, text(i, " "))
				}
			}
		}
	}
	for _, i := range []isa.Instr{
		{A: 1}, {B: 1}, {Imm: 1}, {Imm: -1}, {Op: isa.Li, A: 1, B: 1, Imm: 1}, {Op: isa.Mov, A: 1, B: 1, Imm: 1}, {Op: isa.Jmp, A: 1}, {Op: isa.Jmp, B: 15},
		{Op: isa.Jr, B: 1}, {Op: isa.Jr, A: 1, Imm: -32768}, {Op: isa.Sys, Imm: 32767}, {Op: isa.Brk, A: 15}, {Op: isa.Flags, A: 1, B: 1}, {Op: isa.Flags, Imm: 1},
	} {
		wantNoText(t, i)
	}
}

func TestAS2Parse(t *testing.T) {
	for _, c := range known {
		wantParse(t, c.text, c.i)
	}
	for _, i := range goods() {
		wantParse(t, text(i, " "), i)
	}
}

// Both blanks, one and several of them, mixed, between the words and at the ends.
func TestAS2ParseBlanks(t *testing.T) {
	blanks := []string{" ", "\t", "  ", "\t\t", " \t", "\t ", " \t \t  ", strings.Repeat(" ", 300), strings.Repeat("\t ", 300)}
	ends := append([]string{""}, blanks...)
	for _, c := range known {
		for _, between := range blanks {
			for _, end := range ends {
				wantParse(t, end+text(c.i, between), c.i)
				wantParse(t, text(c.i, between)+end, c.i)
				wantParse(t, end+text(c.i, between)+end, c.i)
			}
		}
	}
	wantParse(t, "addi\tr1  r2 \t -7", isa.Instr{Op: isa.Addi, A: 1, B: 2, Imm: -7})
	wantParse(t, " \t\tsw r1\tr2\t\t7 ", isa.Instr{Op: isa.Sw, A: 1, B: 2, Imm: 7})
}

// Other bytes and runes that are called blanks elsewhere are none here.
func TestAS2ParseNoBlanks(t *testing.T) {
	for _, other := range []string{
		"", "\n", "\r", "\r\n", "\v", "\f", "\x00", "\x01", "\b", "\x1b", "\x1f", "!", ",", ";", "_", "-", "+", "%", "\x7f",
		"\x85", "\xa0", "\u0085", "\u00a0", "\u1680", "\u2000", "\u2003", "\u2028", "\u2029", "\u202f", "\u205f", "\u3000", "\ufeff", "\xff", "\xc2",
	} {
		for _, i := range []isa.Instr{{Op: isa.Li, A: 1, Imm: 5}, {Op: isa.Mov, A: 1, B: 2}, {Op: isa.Jr, A: 3}, {Op: isa.Jmp, Imm: 7}, {Op: isa.Sw, A: 1, B: 2, Imm: 3}} {
			if i.Op == isa.Jmp && other == "-" {
				continue // that is jmp-7, which is held below
			}
			wantNoParse(t, text(i, other))
			if other == "" {
				continue
			}
			wantNoParse(t, other+text(i, " "))
			wantNoParse(t, text(i, " ")+other)
			wantNoParse(t, text(i, " ")+" "+other)
			wantNoParse(t, other+" "+text(i, " "))
			wantNoParse(t, text(i, " "+other))
			if !strings.ContainsAny(other, "-") {
				wantNoParse(t, text(i, other+" "))
				wantNoParse(t, text(i, " "+other+" "))
			}
		}
		if other != "" {
			wantNoParse(t, other)
			wantNoParse(t, "nop"+other)
			wantNoParse(t, other+"nop")
		}
	}
	wantNoParse(t, "jmp-7")
	wantNoParse(t, "jmp- 7")
	wantNoParse(t, "jmp - 7")
}

// The only bytes that may follow a name at once are the two blanks; the only ones that may stand in a number's place are the ten digits.
func TestAS2ParseEveryByte(t *testing.T) {
	for n := range 256 {
		b := string([]byte{byte(n)})
		if b == " " || b == "\t" {
			wantParse(t, "nop"+b, isa.Instr{})
			wantParse(t, b+"nop", isa.Instr{})
			wantParse(t, "jr"+b+"r1", isa.Instr{Op: isa.Jr, A: 1})
			wantNoParse(t, "jr r"+b+"1")
		} else {
			wantNoParse(t, "nop"+b)
			wantNoParse(t, b+"nop")
			wantNoParse(t, "jr"+b+"r1")
			wantNoParse(t, "no"+b+"p")
		}
		if n >= '0' && n <= '9' {
			wantParse(t, "jmp "+b, isa.Instr{Op: isa.Jmp, Imm: n - '0'})
			wantParse(t, "jmp 1"+b, isa.Instr{Op: isa.Jmp, Imm: 10 + n - '0'})
			wantParse(t, "jr r"+b, isa.Instr{Op: isa.Jr, A: n - '0'})
			continue
		}
		wantNoParse(t, "jmp "+b)
		wantNoParse(t, "jmp 1"+b+"1")
		wantNoParse(t, "jr r"+b)
		wantNoParse(t, "jr r1"+b+"1")
		if b != "r" {
			wantNoParse(t, "jr "+b+"1")
		}
		if b != "-" && b != " " && b != "\t" {
			wantNoParse(t, "jmp "+b+"1")
		}
	}
}

func TestAS2ParseNothing(t *testing.T) {
	for _, s := range []string{"", " ", "\t", "  ", " \t ", "\n", "%", "% nop", "nop % no line here", "nop\n", "\nnop", "nop\nnop", "li r1\n5"} {
		wantNoParse(t, s)
	}
}

func TestAS2ParseNames(t *testing.T) {
	for _, f := range model {
		rest := strings.TrimPrefix(text(isa.Instr{Op: f.op}, " "), f.name)
		wantParse(t, f.name+rest, isa.Instr{Op: f.op})
		for _, s := range []string{
			strings.ToUpper(f.name), strings.ToUpper(f.name[:1]) + f.name[1:], f.name[:1] + strings.ToUpper(f.name[1:]), f.name[:len(f.name)-1] + strings.ToUpper(f.name[len(f.name)-1:]),
			f.name + "0", f.name + "s", f.name + "u", "y" + f.name, f.name + "-", "-" + f.name, f.name + ".", f.name + ":", f.name + f.name, f.name + "\x00",
			strconv.Itoa(f.op), "r" + strconv.Itoa(f.op), "%" + f.name, f.name + "%", f.name[:1] + " " + f.name[1:], f.name + "\u0301",
		} {
			wantNoParse(t, s+rest)
			wantNoParse(t, s)
		}
		wantNoParse(t, f.name[:len(f.name)-1]+rest) // add has one part less than addi
		if s := f.name[1:] + rest; f.name != "xor" && f.name != "fadd" && f.name != "fsub" && f.name != "fmul" && f.name != "fdiv" && f.name != "fcmp" {
			wantNoParse(t, s)
		} else {
			wantParse(t, s, isa.Instr{Op: slices.IndexFunc(model, func(other form) bool { return other.name == f.name[1:] })})
		}
	}
	for _, s := range []string{"ret", "push r1", "halt", "li.", "movi r1 5", "subi r1 r2 5", "ld r1 r2 3", "j 5", "b 5", "flag r1", "", "ops", "ops r1", "a", "ab", "abi", "r1", "5", "r1 li 5", "5 jmp", "r1 r2 add"} {
		wantNoParse(t, s)
	}
}

// A part more or less than the operation has, whatever part it is; and parts in another order.
func TestAS2ParseOtherParts(t *testing.T) {
	words := []string{"r0", "r1", "r15", "0", "1", "-1", "x", "nop", "r", "-"}
	for _, f := range model {
		i := isa.Instr{Op: f.op}
		whole := text(i, " ")
		for _, more := range words {
			wantNoParse(t, whole+" "+more)
			wantNoParse(t, more+" "+whole)
			wantNoParse(t, f.name+" "+more+strings.TrimPrefix(whole, f.name))
			wantNoParse(t, whole+" "+more+" "+more)
		}
		for n := range len(f.needs) {
			parts := strings.Split(whole, " ")
			wantNoParse(t, strings.Join(parts[:n+1], " "))
			wantNoParse(t, strings.Join(append(parts[:n+1:n+1], parts[n+2:]...), " "))
		}
	}
	for _, s := range []string{"li 5 r1", "addi r1 5 r2", "addi 5 r1 r2", "lw r1 5 r2", "mov r1 5", "mov 5 r1", "add 1 2", "jmp r1", "call r1", "jr 1", "flags 0", "li r1 r2", "li 1 2", "sw r1 r2 r3", "li r1, 5", "li r1,5", "lw r1 5(r2)"} {
		wantNoParse(t, s)
	}
}

// eachPlace are texts in which a word is put in the place of each part of that kind, of every operation.
func eachPlace(letters, word string) []string {
	var l []string
	for _, f := range model {
		for n, letter := range f.needs {
			if strings.ContainsRune(letters, letter) {
				parts := strings.Split(text(isa.Instr{Op: f.op}, " "), " ")
				parts[n+1] = word
				l = append(l, strings.Join(parts, " "))
			}
		}
	}
	return l
}

func TestAS2ParseNoRegister(t *testing.T) {
	words := []string{
		"r", "R", "R1", "R15", "r16", "r17", "r20", "r31", "r99", "r100", "r155", "r256", "r65536", "r4294967296", "r4294967297", "r18446744073709551616", "r18446744073709551617", "r" + strings.Repeat("1", 400),
		"r00", "r01", "r001", "r010", "r015", "r0015", "r" + strings.Repeat("0", 400), "r-0", "r-1", "r-15", "r-16", "r+0", "r+1", "r+", "r-", "rr1", "rr", "r1r", "r1.", "r1.0", "r1,", "r1:", "r0x1", "r0b1", "r0o1", "r1_0", "r_1", "r1e1", "ra", "rf",
		"1r", "-r1", "+r1", "-", "+", "0", "1", "15", "-1", "f0", "f1", "fr0", "fr1", "xr1", "x1", "$1", "%r1", "r1%", "sp", "pc", "a", "b", "i", "r\u0661", "r\uff11", "\u0072\u0301", "r1\x00", "\x00r1", "r\xff", "r1\n", "\nr1", "(r1)",
	}
	for _, word := range words {
		for _, s := range eachPlace("ab", word) {
			wantNoParse(t, s)
		}
	}
	for _, n := range noRegisters {
		for _, s := range eachPlace("ab", "r"+strconv.Itoa(n)) {
			wantNoParse(t, s)
		}
	}
	for n := range 16 {
		for _, s := range eachPlace("ab", "r"+strconv.Itoa(n)) {
			if i, err := asm.Parse(s); err != nil || i.A+i.B != n || i.Imm != 0 {
				t.Fatalf("Parse(%q): %+v, %v", s, i, err)
			}
		}
	}
}

func TestAS2ParseNoNumber(t *testing.T) {
	words := []string{
		"-", "+", "--", "--1", "-+1", "+-1", "+1", "+0", "-0", "-00", "00", "000", "01", "-01", "007", "-007", "032767", "-032768", "00000000000000000005", strings.Repeat("0", 400), "-" + strings.Repeat("0", 400) + "1",
		"32768", "-32769", "65535", "65536", "-65536", "99999", "-99999", "2147483647", "2147483648", "-2147483648", "4294967291", "4294967296", "4294967301", "9223372036854775807", "9223372036854775808", "-9223372036854775808", "-9223372036854775809",
		"18446744073709551615", "18446744073709551616", "18446744073709551621", "-18446744073709551616", strings.Repeat("9", 400), "-" + strings.Repeat("9", 400), "1" + strings.Repeat("0", 400),
		"0x5", "0X5", "5h", "ff", "0b1", "0o7", "1_0", "1_000", "_1", "1_", "1.0", "1.", ".5", "1e1", "1e", "5,", "5.", "'5'", "#5", "$5", "%5", "5%", "r", "r5", "R5", "a", "i", "x", "nan", "inf", "-inf", "1-", "1-1", "5r", "\u0665", "\uff15", "\u22125", "\u20135", "5\u0301", "\x005", "5\x00", "\xff", "5\n", "\n5", "5\r", "(5)",
	}
	for _, word := range words {
		for _, s := range eachPlace("i", word) {
			wantNoParse(t, s)
		}
	}
	for _, n := range noImms {
		for _, s := range eachPlace("i", strconv.Itoa(n)) {
			wantNoParse(t, s)
		}
	}
	for _, n := range imms {
		for _, s := range eachPlace("i", strconv.Itoa(n)) {
			if i, err := asm.Parse(s); err != nil || i.A+i.B != 0 || i.Imm != n {
				t.Fatalf("Parse(%q): %+v, %v", s, i, err)
			}
		}
	}
}

func TestAS2ParseEveryNumber(t *testing.T) {
	for n := -66000; n <= 66000; n++ {
		s := strconv.Itoa(n)
		if n < -32768 || n > 32767 {
			wantNoParse(t, "call "+s)
		} else {
			wantParse(t, "call "+s, isa.Instr{Op: isa.Call, Imm: n})
			wantNoParse(t, "call 0"+s)
			wantNoParse(t, "call +"+s)
			wantNoParse(t, "call -0"+s)
		}
		if n < 0 || n > 15 {
			wantNoParse(t, "fsqrt r"+s+" r2")
			wantNoParse(t, "fsqrt r2 r"+s)
			continue
		}
		wantParse(t, "fsqrt r"+s+" r2", isa.Instr{Op: isa.Fsqrt, A: n, B: 2})
		wantParse(t, "fsqrt r2 r"+s, isa.Instr{Op: isa.Fsqrt, A: 2, B: n})
	}
}

// A part that the text does not have is 0.
func TestAS2ParseAbsentParts(t *testing.T) {
	wantParse(t, "sys", isa.Instr{Op: 29})
	wantParse(t, "li r15 -32768", isa.Instr{Op: 1, A: 15, Imm: -32768})
	wantParse(t, "jc 32767", isa.Instr{Op: 26, Imm: 32767})
	wantParse(t, "flags r15", isa.Instr{Op: 41, A: 15})
	wantParse(t, "cmp r15 r15", isa.Instr{Op: 16, A: 15, B: 15})
}

// Texts that are an instruction's with a few bytes changed are read as the patterns read them.
func TestAS2ParseAsModel(t *testing.T) {
	alphabet := "  \t\t\n\r%-+0123456789rrabdeijlmnopsvwxzR_.\x00\xff"
	var d dice = 9
	good := 0
	for range 300000 {
		b := []byte(known[d.throw(len(known))].text)
		for range d.throw(3) {
			at := d.throw(len(b))
			switch c := alphabet[d.throw(len(alphabet))]; d.throw(3) {
			case 0:
				b[at] = c
			case 1:
				b = append(b[:at], append([]byte{c}, b[at:]...)...)
			case 2:
				b = append(b[:at], b[at+1:]...)
			}
			if len(b) == 0 {
				b = []byte{' '}
			}
		}
		if i, ok := parse(string(b)); ok {
			good++
			wantParse(t, string(b), i)
		} else {
			wantNoParse(t, string(b))
		}
	}
	if good < 100000 || good > 250000 {
		t.Errorf("%d of the texts are good: too few of one kind", good)
	}
}

// What has a text comes back from it whole.
func TestAS3(t *testing.T) {
	seen := map[string]isa.Instr{}
	for _, i := range goods() {
		s, err := asm.Text(i)
		if err != nil {
			t.Fatalf("Text(%+v): %v", i, err)
		}
		if other, ok := seen[s]; ok {
			t.Fatalf("%+v and %+v have the same text %q", i, other, s)
		}
		seen[s] = i
		wantParse(t, s, i)
	}
}

// Every operation comes back from its text, under its own name, with every part it has.
func TestAS3EveryOperation(t *testing.T) {
	for _, f := range model {
		i := isa.Instr{Op: f.op}
		for _, letter := range f.needs {
			switch letter {
			case 'a':
				i.A = 3
			case 'b':
				i.B = 12
			case 'i':
				i.Imm = -700
			}
		}
		s, err := asm.Text(i)
		if err != nil || !strings.HasPrefix(s+" ", f.name+" ") {
			t.Fatalf("Text(%+v): %q, %v, want a text of %s", i, s, err, f.name)
		}
		wantParse(t, s, i)
	}
}

// An instruction that is read has a text of its own, from which it comes back, however it was written.
func TestAS3Back(t *testing.T) {
	for _, c := range known {
		for _, s := range []string{c.text, " " + text(c.i, "\t \t") + "\t"} {
			i, err := asm.Parse(s)
			if err != nil {
				t.Fatalf("Parse(%q): %v", s, err)
			}
			wantText(t, i, c.text)
		}
	}
}

// The same calls have the same answers, whatever was called between.
func TestAS3Again(t *testing.T) {
	for range 3 {
		for _, c := range known {
			wantText(t, c.i, c.text)
			wantNoParse(t, c.text+" r")
			wantParse(t, c.text, c.i)
			wantNoText(t, isa.Instr{Op: c.i.Op - 42, A: c.i.A, B: c.i.B, Imm: c.i.Imm})
		}
	}
}
