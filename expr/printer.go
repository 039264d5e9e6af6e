package expr

import (
	"dossier/api"
	"dossier/value"
)

// Print returns the text of a tree.
func Print(n api.Node) (s string, err api.Errno) {
	if !Can(n) {
		return "", api.ErrArg
	}
	defer func() {
		if raised := recover(); raised != nil {
			err = raised.(api.Errno)
		}
	}()
	p := &printer{}
	p.tree(n, disjunction)
	return string(p.text), api.OK
}

// A printer raises ErrFull as soon as its text is too long: the rest of a tree made by hand may be of any size.
type printer struct{ text []byte }

func (p *printer) put(s string) {
	if len(s) > api.MaxExpr-len(p.text) {
		panic(api.ErrFull)
	}
	p.text = append(p.text, s...)
}

// tree prints n where only trees that bind at least as tightly as a level need no parentheses.
func (p *printer) tree(n api.Node, level int) {
	o, is := operatorOf(n.Op)
	switch {
	case !is:
		p.leaf(n)
	case o.level < level:
		p.put("(")
		p.tree(n, disjunction)
		p.put(")")
	case o.kids == 1:
		p.prefix(o)
		p.tree(n.Kids[0], o.level)
	default:
		p.tree(n.Kids[0], firstLevel(o))
		p.put(" " + o.mark + " ")
		p.tree(n.Kids[1], o.level+1)
	}
}

func (p *printer) prefix(o operator) {
	p.put(o.mark)
	if o.op == api.OpNot {
		p.put(" ")
	}
}

// firstLevel is how tightly the first of two kids must bind: comparisons do not associate.
func firstLevel(o operator) int {
	if o.level == comparison {
		return o.level + 1
	}
	return o.level
}

func (p *printer) leaf(n api.Node) {
	switch n.Op {
	case api.OpValue:
		p.put(value.Print(n.Value))
	case api.OpPath:
		p.put(n.Text)
	case api.OpCount:
		p.put("count(" + n.Text + ")")
	case api.OpNumber:
		p.put("number(" + n.Text + ", " + StateName(n.Int) + ")")
	}
}
