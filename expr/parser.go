package expr

import (
	"dossier/api"
	"dossier/lexer"
	"dossier/value"
)

// Parse returns the tree of an expression.
func Parse(s string) (n api.Node, err api.Errno) {
	words, _, err := lexer.Words(s)
	if err != api.OK {
		return api.Node{}, err
	}
	defer func() {
		if raised := recover(); raised != nil {
			err = raised.(api.Errno)
		}
	}()
	p := &parser{words: words}
	return p.whole(), api.OK
}

// A parser raises what is wrong, wherever it is in the tree, and Parse catches it.
type parser struct {
	words []api.Word // those that are left; the WordEnd remains
}

func (p *parser) whole() api.Node {
	n := p.tree(disjunction)
	if p.words[0].Kind != api.WordEnd {
		panic(api.ErrParse)
	}
	if Depth(n) > api.MaxDepth {
		panic(api.ErrFull)
	}
	return n
}

// tree reads a tree that binds at least as tightly as a level.
func (p *parser) tree(level int) api.Node {
	if level == leaf {
		return p.leaf()
	}
	if o, is := p.operator(level, 1); is {
		return api.Node{Op: o.op, Kids: []api.Node{p.tree(level)}}
	}
	n := p.tree(level + 1)
	for {
		o, is := p.operator(level, 2)
		if !is {
			return n
		}
		n = api.Node{Op: o.op, Kids: []api.Node{n, p.tree(level + 1)}}
		if level == comparison {
			return n
		}
	}
}

// operator takes the next word if it is an operator of a level for so many kids.
func (p *parser) operator(level, kids int) (operator, bool) {
	for _, o := range operators {
		if o.level == level && o.kids == kids && p.take(o.mark) {
			return o, true
		}
	}
	return operator{}, false
}

func (p *parser) leaf() api.Node {
	switch w := p.words[0]; w.Kind {
	case api.WordInt:
		return p.literal(value.Int(w.Int))
	case api.WordText:
		return p.literal(value.Text(w.Text))
	}
	switch {
	case p.is("true"):
		return p.literal(value.Bool(true))
	case p.is("false"):
		return p.literal(value.Bool(false))
	case p.take("("):
		n := p.tree(disjunction)
		p.need(")")
		return n
	case p.take("count"):
		return p.count()
	case p.take("number"):
		return p.number()
	}
	return api.Node{Op: api.OpPath, Text: p.path()}
}

// literal takes the next word, which denotes v.
func (p *parser) literal(v api.Value) api.Node {
	p.words = p.words[1:]
	return api.Node{Op: api.OpValue, Value: v}
}

func (p *parser) count() api.Node {
	p.need("(")
	n := api.Node{Op: api.OpCount, Text: p.path()}
	p.need(")")
	return n
}

func (p *parser) number() api.Node {
	p.need("(")
	n := api.Node{Op: api.OpNumber, Text: p.name()}
	p.need(",")
	n.Int = p.state()
	p.need(")")
	return n
}

func (p *parser) path() string {
	s := p.name()
	for p.take(".") {
		s += "." + p.name()
	}
	return s
}

func (p *parser) name() string {
	w := p.words[0]
	if w.Kind != api.WordName || Keyword(w.Text) {
		panic(api.ErrParse)
	}
	p.words = p.words[1:]
	return w.Text
}

func (p *parser) state() int {
	state, is := State(p.name())
	if !is {
		panic(api.ErrParse)
	}
	return state
}

// need takes the next word, which must be a mark.
func (p *parser) need(mark string) {
	if !p.take(mark) {
		panic(api.ErrParse)
	}
}

// take takes the next word if it is a mark.
func (p *parser) take(mark string) bool {
	found := p.is(mark)
	if found {
		p.words = p.words[1:]
	}
	return found
}

// is reports whether the next word is a mark: a sign or a keyword, but not a string literal that denotes it.
func (p *parser) is(mark string) bool {
	w := p.words[0]
	return w.Text == mark && w.Kind != api.WordText
}
