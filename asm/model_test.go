package asm_test

import (
	"errors"
	"math/big"
	"regexp"
	"strings"

	"halter/api"
	"halter/isa"
)

// forms are the operations as the chapter lists them, in its order: the name and the parts.
const forms = `nop
li a i
lui a i
mov a b
add a b
sub a b
mul a b
div a b
rem a b
and a b
or a b
xor a b
shl a b
shr a b
sar a b
addi a b i
cmp a b
lb a b i
lw a b i
sb a b i
sw a b i
jmp i
jz i
jnz i
jlt i
jge i
jc i
call i
jr a
sys
brk
fld a b i
fst a b i
fadd a b
fsub a b
fmul a b
fdiv a b
fsqrt a b
fcmp a b
ftoi a b
itof a b
flags a`

// form is how the chapter has an operation written.
type form struct {
	op    int
	name  string
	needs string
	text  *regexp.Regexp // the texts of its instructions, and some whose number is too great or too small
}

func allForms() []form {
	pattern := map[string]string{"a": "r(0|[1-9]|1[0-5])", "b": "r(0|[1-9]|1[0-5])", "i": "(0|-?[1-9][0-9]*)"}
	var l []form
	for op, line := range strings.Split(forms, "\n") {
		words := strings.Fields(line)
		text := `\A[ \t]*` + words[0]
		for _, part := range words[1:] {
			text += `[ \t]+` + pattern[part]
		}
		l = append(l, form{op, words[0], strings.Join(words[1:], ""), regexp.MustCompile(text + `[ \t]*\z`)})
	}
	return l
}

// model reads texts as the chapter says, by a pattern for each operation.
var model = allForms()

// parse is the instruction of a text; false: it is none's.
func parse(s string) (isa.Instr, bool) {
	for _, f := range model {
		found := f.text.FindStringSubmatch(s)
		if found == nil {
			continue
		}
		i := isa.Instr{Op: f.op}
		for n, letter := range f.needs {
			v, _ := new(big.Int).SetString(found[n+1], 10)
			if v.Cmp(big.NewInt(-32768)) < 0 || v.Cmp(big.NewInt(32767)) > 0 {
				return isa.Instr{}, false
			}
			switch letter {
			case 'a':
				i.A = int(v.Int64())
			case 'b':
				i.B = int(v.Int64())
			case 'i':
				i.Imm = int(v.Int64())
			}
		}
		return i, true
	}
	return isa.Instr{}, false
}

// program are the numbers of a text, or the line that is wrong; it goes from byte to byte.
func program(s string) ([]uint32, int) {
	var l []uint32
	line, text, isSkipping := 1, "", false
	for at := range len(s) + 1 {
		if at < len(s) && s[at] != '\n' {
			isSkipping = isSkipping || s[at] == '%'
			if !isSkipping {
				text += s[at : at+1]
			}
			continue
		}
		if strings.Trim(text, " \t") != "" {
			i, ok := parse(text)
			if !ok {
				return nil, line
			}
			l = append(l, number(i))
		}
		line, text, isSkipping = line+1, "", false
	}
	return l, 0
}

// number is the sum of chapter 8; i is valid.
func number(i isa.Instr) uint32 {
	n := int64(i.Op)*16777216 + int64(i.A)*1048576 + int64(i.B)*65536 + int64(i.Imm)
	if i.Imm < 0 {
		n += 65536
	}
	return uint32(n)
}

// dice are numbers that look thrown, the same ones in each run.
type dice uint64

func (d *dice) throw(n int) int {
	*d = *d*6364136223846793005 + 1442695040888963407
	return int(uint64(*d) >> 33 % uint64(n))
}

func is(err error, want api.Errno) bool {
	var no api.Errno
	return errors.As(err, &no) && no == want
}
