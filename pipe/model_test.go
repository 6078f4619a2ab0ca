package pipe_test

import "halter/pipe"

// slow answers what a call should answer: bytes go one by one, each rule as the chapter says it.
func (c call) slow() answer {
	if !c.isValid() {
		return answer{no: 22}
	}
	switch c.name {
	case "Read":
		return c.slowRead()
	case "Write":
		return c.slowWrite()
	case "Open":
		return c.slowChange(+1)
	case "Close":
		return c.slowChange(-1)
	}
	return answer{}
}

func (c call) isValid() bool {
	bytes := 0
	for range c.p.Bytes {
		bytes++
	}
	return bytes < 65 && c.p.Readers > -1 && c.p.Readers < 1048577 && c.p.Writers > -1 && c.p.Writers < 1048577
}

func (c call) slowRead() answer {
	if c.n < 0 {
		return answer{no: 22}
	}
	if c.n != 0 && len(c.p.Bytes) == 0 && c.p.Writers != 0 {
		return answer{no: 11}
	}
	a := answer{p: pipe.Pipe{Readers: c.p.Readers, Writers: c.p.Writers}}
	for i, b := range c.p.Bytes {
		if i < c.n {
			a.b = append(a.b, b)
		} else {
			a.p.Bytes = append(a.p.Bytes, b)
		}
	}
	return a
}

func (c call) slowWrite() answer {
	if c.p.Readers == 0 {
		return answer{no: 32}
	}
	if len(c.b) != 0 && len(c.p.Bytes) == 64 {
		return answer{no: 11}
	}
	a := answer{p: pipe.Pipe{Readers: c.p.Readers, Writers: c.p.Writers}}
	for _, b := range c.p.Bytes {
		a.p.Bytes = append(a.p.Bytes, b)
	}
	for _, b := range c.b {
		if len(a.p.Bytes) == 64 {
			break
		}
		a.p.Bytes = append(a.p.Bytes, b)
		a.n++
	}
	return a
}

func (c call) slowChange(by int) answer {
	a := answer{p: pipe.Pipe{Readers: c.p.Readers, Writers: c.p.Writers}}
	changed := &a.p.Readers
	if c.write {
		changed = &a.p.Writers
	}
	*changed += by
	if *changed == -1 || *changed == 1048577 {
		return answer{no: 22}
	}
	if a.p.Readers > 0 {
		a.p.Bytes = append(a.p.Bytes, c.p.Bytes...)
	}
	return a
}
