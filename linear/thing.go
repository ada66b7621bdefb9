package linear

import "scarab/api"

// content is what is in a thing: its first many values; the others are 0, so that the same contents are the same structs.
type content struct {
	vals [MaxCalls]int64
	many int
}

// answer is what an operation tells.
type answer struct {
	out   int64
	empty bool
}

// deed is something that may be done to a thing, by its number: what is in the thing then, and what is told.
type deed struct {
	do  int
	act func(c content, in int64) (content, answer)
}

// thing is a kind of thing: what is in it at first, and what may be done to it.
type thing struct {
	first content
	deeds [2]deed
}

// thingOf is the thing of a kind, and whether there is one.
func thingOf(kind int) (thing, bool) {
	nought := content{many: 1}
	switch kind {
	case api.KindRegister:
		return thing{nought, [2]deed{{api.DoRead, read}, {api.DoWrite, write}}}, true
	case api.KindCounter:
		return thing{nought, [2]deed{{api.DoRead, read}, {api.DoAdd, add}}}, true
	case api.KindQueue:
		return thing{content{}, [2]deed{{api.DoPut, put}, {api.DoTake, takeFirst}}}, true
	case api.KindStack:
		return thing{content{}, [2]deed{{api.DoPut, put}, {api.DoTake, takeLast}}}, true
	}
	return thing{}, false
}

// deed is what a thing's operation of a number does, and whether it has one.
func (k thing) deed(do int) (deed, bool) {
	for _, d := range k.deeds {
		if d.do == do {
			return d, true
		}
	}
	return deed{}, false
}

// done is what is in a thing behind an operation that it has, and whether that tells there what it says it told; a pending
// one may tell anything.
func (k thing) done(c content, x api.Call) (content, bool) {
	d, _ := k.deed(x.Do)
	c, told := d.act(c, x.In)
	return c, pending(x) || told == answer{x.Out, x.Empty}
}

// read tells what is in a register or a counter.
func read(c content, _ int64) (content, answer) { return c, answer{out: c.vals[0]} }

// write lays a value into a register.
func write(c content, in int64) (content, answer) {
	c.vals[0] = in
	return c, answer{}
}

// add adds to a counter.
func add(c content, in int64) (content, answer) {
	c.vals[0] += in
	return c, answer{}
}

// put lays a value behind all; there is room, since each operation of a history is done once.
func put(c content, in int64) (content, answer) {
	c.vals[c.many] = in
	c.many++
	return c, answer{}
}

// takeFirst takes the first value of a queue.
func takeFirst(c content, _ int64) (content, answer) {
	if c.many == 0 {
		return c, answer{empty: true}
	}
	first := c.vals[0]
	copy(c.vals[:], c.vals[1:c.many])
	c.many--
	c.vals[c.many] = 0
	return c, answer{out: first}
}

// takeLast takes the last value of a stack.
func takeLast(c content, _ int64) (content, answer) {
	if c.many == 0 {
		return c, answer{empty: true}
	}
	c.many--
	last := c.vals[c.many]
	c.vals[c.many] = 0
	return c, answer{out: last}
}
