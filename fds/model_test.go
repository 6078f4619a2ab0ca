package fds_test

import "halter/fds"

// slow answers what a call should answer: a table is a map of the files that have descriptors, each rule as the chapter says it.
func (c call) slow() answer {
	held, valid := heldBy(c.t)
	switch {
	case !valid && (c.name == "Files" || c.name == "Free"):
		return answer{}
	case !valid:
		return answer{no: 22}
	}
	switch c.name {
	case "Put":
		return held.slowPut(c.n)
	case "At":
		return held.slowAt(c.n)
	case "Drop":
		return held.slowDrop(c.n)
	case "Dup":
		return held.slowDup(c.n)
	case "Files":
		return held.slowFiles()
	case "Free":
		return held.slowFree()
	}
	return answer{}
}

// holding is which files have which descriptors.
type holding map[int]int

// heldBy is what a table holds, and whether it is valid.
func heldBy(t fds.Table) (holding, bool) {
	held := holding{}
	for fd, slot := range t.Slots {
		file := -1
		for some := range 32 {
			if some+1 == slot {
				file = some
			}
		}
		switch {
		case file >= 0:
			held[fd] = file
		case slot != 0:
			return nil, false
		}
	}
	return held, true
}

// table is the one that holds so.
func (h holding) table() fds.Table {
	var t fds.Table
	for fd, file := range h {
		t.Slots[fd] = file + 1
	}
	return t
}

func (h holding) slowPut(file int) answer {
	good := false
	for some := range 32 {
		good = good || some == file
	}
	if !good {
		return answer{no: 22}
	}
	for fd := range 8 {
		if _, taken := h[fd]; !taken {
			h[fd] = file
			return answer{n: fd, t: h.table()}
		}
	}
	return answer{no: 24}
}

func (h holding) slowAt(fd int) answer {
	file, taken := h[fd]
	if !taken {
		return answer{no: 9}
	}
	return answer{n: file}
}

func (h holding) slowDrop(fd int) answer {
	file, taken := h[fd]
	if !taken {
		return answer{no: 9}
	}
	delete(h, fd)
	return answer{n: file, t: h.table()}
}

func (h holding) slowDup(fd int) answer {
	file, taken := h[fd]
	if !taken {
		return answer{no: 9}
	}
	return h.slowPut(file)
}

func (h holding) slowFiles() answer {
	var a answer
	for fd := range 8 {
		if file, taken := h[fd]; taken {
			a.l = append(a.l, file)
		}
	}
	return a
}

func (h holding) slowFree() answer {
	var a answer
	for fd := range 8 {
		if _, taken := h[fd]; !taken {
			a.n++
		}
	}
	return a
}
