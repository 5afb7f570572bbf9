package pack

import (
	"bailiwick/api"
	"bailiwick/shape"
)

// thrown is the first fault of bytes.
type thrown struct{ e api.Errno }

func must(holds bool, e api.Errno) {
	if !holds {
		panic(thrown{e})
	}
}

// parse are the parts that bytes tell.
func parse(b string) (parts []shape.Part, e api.Errno) {
	defer func() {
		if x := recover(); x != nil {
			t, ok := x.(thrown)
			if !ok {
				panic(x)
			}
			parts, e = nil, t.e
		}
	}()
	must(len(b) >= least, api.ErrForm)
	end := len(b) - sumSize
	must(sum(b[:end]) == b[end:], api.ErrRange)
	p := &parser{left: b[:end]}
	must(p.take(len(magic)) == magic, api.ErrForm)
	n := p.number()
	must(n >= 1 && n <= api.MaxRegions, api.ErrForm)
	for range n {
		p.part()
	}
	must(p.left == "", api.ErrForm)
	return p.parts, api.OK
}

// parser is the bytes that are left, and the parts that were told, the last one while it is told.
type parser struct {
	left  string
	parts []shape.Part
	deep  []int
	p     shape.Part
}

func (p *parser) take(n int) string {
	must(n <= len(p.left), api.ErrForm)
	b := p.left[:n]
	p.left = p.left[n:]
	return b
}

func (p *parser) number() int { return int(p.take(1)[0]) }

// part takes one region, step by step.
func (p *parser) part() {
	p.p = shape.Part{}
	for _, step := range []func(){p.up, p.quota, p.bytes, p.cells} {
		step()
	}
}

func (p *parser) up() {
	p.p.Up = p.number()
	if len(p.parts) == 0 {
		must(p.p.Up == 0, api.ErrForm)
		p.deep = append(p.deep, 1)
		return
	}
	must(above(p.parts, p.p.Up, len(p.parts)-1), api.ErrForm)
	deep := p.deep[p.p.Up] + 1
	must(deep <= api.MaxDepth, api.ErrForm)
	p.deep = append(p.deep, deep)
}

// quota takes the quota, and the chunks that it has to be enough for.
func (p *parser) quota() {
	p.p.Quota = p.number()
	for range p.number() {
		n := p.number()
		must(n >= 1 && n <= maxChunk, api.ErrForm)
		p.p.Chunks = append(p.p.Chunks, n)
	}
	must(p.p.Quota <= api.MaxPages && p.p.Quota >= pages(p.p), api.ErrForm)
}

func (p *parser) bytes() {
	used := p.number()
	if n := len(p.p.Chunks); n > 0 {
		last := p.p.Chunks[n-1]
		must(used > (last-1)*api.Page && used <= last*api.Page, api.ErrForm)
		used += (pages(p.p) - last) * api.Page
	} else {
		must(used == 0, api.ErrForm)
	}
	p.p.Bytes = []byte(p.take(used))
}

func (p *parser) cells() {
	for i := range p.p.Cells {
		p.p.Cells[i].Place = p.number()
	}
	p.parts = append(p.parts, p.p)
	must(mayCells(p.parts, len(p.parts)-1), api.ErrForm)
}
