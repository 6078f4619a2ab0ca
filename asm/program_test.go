package asm_test

import (
	"slices"
	"strings"
	"testing"

	"halter/api"
	"halter/asm"
)

func wantProgram(t *testing.T, s string, want ...uint32) {
	t.Helper()
	if l, line, err := asm.Program(s); !slices.Equal(l, want) || line != 0 || err != nil {
		t.Fatalf("Program(%q): %#x, %d, %v, want %#x", short(s), l, line, err, want)
	}
}

func wantNoProgram(t *testing.T, s string, want int) {
	t.Helper()
	if l, line, err := asm.Program(s); len(l) != 0 || line != want || !is(err, api.ErrArg) {
		t.Fatalf("Program(%q): %#x, %d, %v, want no numbers, %d and %v", short(s), l, line, err, want, api.ErrArg)
	}
}

func wantLong(t *testing.T, s string) {
	t.Helper()
	if l, line, err := asm.Program(s); len(l) != 0 || line != 0 || !is(err, api.ErrLong) {
		t.Fatalf("Program(%d bytes, %q): %d numbers, %d, %v, want none, 0 and %v", len(s), short(s), len(l), line, err, api.ErrLong)
	}
}

// short is the beginning of a text.
func short(s string) string { return s[:min(len(s), 200)] }

func TestAS2Program(t *testing.T) {
	wantProgram(t, "li r1 -5", 0x0110fffb) // the chapter's example
	var whole string
	var numbers []uint32
	for _, c := range known {
		wantProgram(t, c.text, c.v)
		wantProgram(t, c.text+"\n", c.v)
		wantProgram(t, "\t"+text(c.i, " \t ")+" \nsys", c.v, 0x1d000000)
		wantProgram(t, "sys\n"+c.text, 0x1d000000, c.v)
		whole += c.text + "\n"
		numbers = append(numbers, c.v)
	}
	wantProgram(t, whole, numbers...)
	wantProgram(t, strings.TrimSuffix(whole, "\n"), numbers...)
}

func TestAS2ProgramOfEveryInstruction(t *testing.T) {
	l := goods()
	for len(l) > 0 {
		n := min(len(l), 2000)
		var b strings.Builder
		var numbers []uint32
		for _, i := range l[:n] {
			b.WriteString(text(i, " ") + "\n")
			numbers = append(numbers, number(i))
		}
		wantProgram(t, b.String(), numbers...)
		l = l[n:]
	}
}

func TestAS2ProgramWithoutInstructions(t *testing.T) {
	for _, s := range []string{
		"", " ", "\t", "\n", "\n\n\n", " \n\t\n \t \n", "%", "%\n", "%%", "% li r1 5", "%li r1 5\n% nop", " % nop", "\t%\n \n", "%\xff\x00\r", "\n%\n", strings.Repeat("\n", api.MaxText), strings.Repeat("%", api.MaxText), strings.Repeat(" ", api.MaxText),
	} {
		wantProgram(t, s)
	}
}

func TestAS2ProgramSkips(t *testing.T) {
	wantProgram(t, "\n\nnop\n \n\t\nsys\n\n", 0, 0x1d000000)
	wantProgram(t, "\nli r1 -5", 0x0110fffb)
	wantProgram(t, "% a text\nli r1 -5 % behind\n\t% more\nbrk% at once\n", 0x0110fffb, 0x1e000000)
	wantProgram(t, "nop%\nnop%%\n%nop\nnop % % nop\nnop %nop", 0, 0, 0, 0)
	wantProgram(t, "li r1 5%0\nli r1 5 %0\nli r1 1% 5", 0x01100005, 0x01100005, 0x01100001)
	wantProgram(t, "jr r1%5\njr r2%r3", 0x1c100000, 0x1c200000)
}

func TestAS2ProgramWithinAnInstruction(t *testing.T) {
	wantProgram(t, "addi r1 r2 -12%34", 0x0f12fff4)
	wantNoProgram(t, "nop\naddi r1 r2 %-12", 2)
	wantNoProgram(t, "li% r1 5", 1)
	wantNoProgram(t, "li r1% 5", 1)
	wantNoProgram(t, "li r%1 5", 1)
	wantNoProgram(t, "li r1 -%5", 1)
	wantNoProgram(t, "l%i r1 5", 1)
	wantNoProgram(t, "no%p", 1)
	wantNoProgram(t, "nop\n\nli r1 %5\n5", 3)
}

func TestAS2ProgramLastLine(t *testing.T) {
	wantProgram(t, "nop\nsys", 0, 0x1d000000)
	wantProgram(t, "nop\nsys\n", 0, 0x1d000000)
	wantProgram(t, "nop\nsys\n\n", 0, 0x1d000000)
	wantProgram(t, "nop\nsys\n ", 0, 0x1d000000)
	wantProgram(t, "nop\nsys\n%", 0, 0x1d000000)
	wantNoProgram(t, "nop\nsys\nx", 3)
	wantNoProgram(t, "nop\nsys\nx\n", 3)
	wantNoProgram(t, "nop\nsys\n\nx", 4)
}

// Lines end with byte 10 alone: byte 13 is no blank, but may stand behind a %.
func TestAS2ProgramLineEnds(t *testing.T) {
	wantNoProgram(t, "nop\r\nnop\r\n", 1)
	wantNoProgram(t, "nop\n\r\nnop", 2)
	wantNoProgram(t, "nop\rnop", 1)
	wantNoProgram(t, "nop\vnop", 1)
	wantNoProgram(t, "nop\fnop", 1)
	wantNoProgram(t, "nop\x00nop", 1)
	wantNoProgram(t, "nop\u0085nop", 1)
	wantNoProgram(t, "nop\u2028nop", 1)
	wantNoProgram(t, "nop nop", 1)
	wantNoProgram(t, "nop;nop", 1)
	wantNoProgram(t, "\u00a0", 1)
	wantNoProgram(t, "\ufeffnop", 1)
	wantProgram(t, "nop %\r\nsys%\r\n%\r", 0, 0x1d000000)
	wantProgram(t, "nop % \rsys", 0)
}

func TestAS2ProgramWrongLine(t *testing.T) {
	for _, bad := range []string{
		"x", "NOP", "li", "li r1", "li r1 5 6", "li r16 5", "li r01 5", "li R1 5", "li r1 32768", "li r1 -32769", "li r1 -0", "li r1 +1", "li r1 05", "li r1 -", "li r 5", "nop nop", "#", "// nop", "; nop", "-", "\x00", "\xff", "jr 5", "jmp r5", "addi r1 r2",
	} {
		wantNoProgram(t, bad, 1)
		wantNoProgram(t, bad+"\n", 1)
		wantNoProgram(t, " "+bad+"\t% nop", 1)
		wantNoProgram(t, "nop\n"+bad+"\nnop", 2)
		wantNoProgram(t, "\n \n%\nnop\n"+bad, 5)
		wantNoProgram(t, strings.Repeat("\n", 1000)+bad, 1001)
		wantNoProgram(t, strings.Repeat("nop\n", 9999)+bad+"\nnop\n", 10000)
		wantProgram(t, "nop\n%"+bad+"\nnop", 0, 0)
		wantProgram(t, "nop\nnop % "+bad, 0, 0)
	}
}

func TestAS2ProgramTwoWrongLines(t *testing.T) {
	wantNoProgram(t, "x\ny", 1)
	wantNoProgram(t, "nop\nli r1 32768\nx\n", 2)
	wantNoProgram(t, "nop\nx\nli r1 32768\n", 2)
	wantNoProgram(t, "nop\n\nx\nsys\ny\nz", 3)
	wantNoProgram(t, "%\nli r16 1\nli", 2)
	wantNoProgram(t, "% x\nnop % x\nx\nx", 3)
}

func TestAS2ProgramLong(t *testing.T) {
	most := strings.Repeat("nop\n", api.MaxText/4)
	if len(most) != 65536 {
		t.Fatalf("%d bytes", len(most))
	}
	wantProgram(t, most, make([]uint32, 16384)...)
	wantLong(t, most+"\n")
	wantLong(t, "\n"+most)
	wantLong(t, most+most)
	wantProgram(t, most[:65535], make([]uint32, 16384)...)
	wantNoProgram(t, most[:65534], 16384)
	wantNoProgram(t, most[:65535]+"x", 16384)
}

// Nothing else is looked at in a text that is too long, and everything is in one that is not.
func TestAS2ProgramLongAndWrong(t *testing.T) {
	for _, c := range []struct{ head, fill string }{
		{"x\n", "\n"}, {"x\n", " "}, {"x %", "%"}, {"li r1 32768\n", "%"}, {"x\n", "nop\n"}, {"x", "x"}, {"\xff\n", "\x00"},
	} {
		s := (c.head + strings.Repeat(c.fill, 65536))[:65537]
		wantLong(t, s)
		wantNoProgram(t, s[:65536], 1)
		wantNoProgram(t, s[:65535], 1)
	}
	blank := strings.Repeat("\n", 65535)
	wantNoProgram(t, blank+"x", 65536)
	wantLong(t, blank+"xx")
	wantLong(t, blank+"\n%")
	wantProgram(t, strings.Repeat(" ", 65532)+"\nsys", 0x1d000000)
	wantLong(t, strings.Repeat(" ", 65533)+"\nsys")
	wantProgram(t, "sys%"+strings.Repeat("x", 65532), 0x1d000000)
	wantLong(t, "sys%"+strings.Repeat("x", 65533))
	wantLong(t, strings.Repeat("\u00e9", 32769))
	wantNoProgram(t, strings.Repeat("\u00e9", 32768), 1)
	wantProgram(t, "%"+strings.Repeat("\u00e9", 32767), nil...)
}

// Texts of lines of all kinds, some of them wrong, are read as the model reads them.
func TestAS2ProgramAsModel(t *testing.T) {
	ends := []string{"", "", "", " ", "\t", "%", " % x", "%\t", "%%"}
	others := []string{"", "", " ", "\t \t", "%", " % nop", "%x"}
	wrong := []string{"x", "nop nop", "li r1", "li r1 40000", "mov r1 r16", "sys\r", "no%p", "jmp -%1", "-"}
	var d dice = 27
	good := 0
	for range 5000 {
		var lines []string
		for range d.throw(12) {
			switch d.throw(24) {
			case 0:
				lines = append(lines, wrong[d.throw(len(wrong))])
			case 1, 2, 3, 4, 5:
				lines = append(lines, others[d.throw(len(others))])
			default:
				i := known[d.throw(len(known))].i
				lines = append(lines, text(i, []string{" ", "\t", "  "}[d.throw(3)])+ends[d.throw(len(ends))])
			}
		}
		s := strings.Join(lines, "\n") + []string{"", "\n"}[d.throw(2)]
		if want, line := program(s); line == 0 {
			good++
			wantProgram(t, s, want...)
		} else {
			wantNoProgram(t, s, line)
		}
	}
	if good < 1000 || good > 4500 {
		t.Errorf("%d of the texts are good: too few of one kind", good)
	}
}

// The numbers are the caller's own, with their spare capacity.
func TestAS2ProgramAnew(t *testing.T) {
	const s = "li r1 -5\nsys\nbrk"
	want := []uint32{0x0110fffb, 0x1d000000, 0x1e000000}
	first, _, _ := asm.Program(s)
	second, _, _ := asm.Program(s)
	for n := range first[:cap(first)] {
		first[:cap(first)][n] = 99
	}
	if !slices.Equal(second, want) {
		t.Errorf("numbers of another call were changed: %#x", second)
	}
	wantProgram(t, s, want...)
}
