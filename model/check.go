package model

import (
	"slices"

	"dossier/api"
	"dossier/chars"
	"dossier/check"
	"dossier/shape"
)

const maxAfter = 1 << 31 // of a timer

// Check returns what is wrong with a model.
func Check(m api.Model) api.Errno {
	if err := headFault(m); err != api.OK {
		return err
	}
	c := checker{m: m}
	if !c.collect() {
		return api.ErrFull
	}
	for k := range c.items {
		if err := c.itemFault(k); err != api.OK {
			return err
		}
	}
	for _, i := range c.items {
		if err := c.conditionFault(i); err != api.OK {
			return err
		}
	}
	return api.OK
}

// headFault returns what is wrong with a model apart from its items.
func headFault(m api.Model) api.Errno {
	if !shape.Name(m.ID) || !title(m.Name) {
		return api.ErrName
	}
	for _, role := range m.Roles {
		if !shape.Name(role) {
			return api.ErrName
		}
	}
	if len(m.Roles) > api.MaxRoles {
		return api.ErrFull
	}
	if twice(m.Roles) {
		return api.ErrTwice
	}
	if err := shape.Check(m.Files); err != api.OK {
		return err
	}
	if !planned(m.Plan) {
		return api.ErrModel
	}
	return api.OK
}

// planned reports whether an item can be a plan, as far as it must be more than an item of its kind.
func planned(i api.Item) bool {
	return i.Kind == api.ItemStage && len(i.Entry) == 0 && len(i.Roles) == 0 &&
		i.Manual == "" && i.Required == "" && i.Repeat == ""
}

// A checker holds the items of its model in preorder. They share memory with the model, and are read only.
type checker struct {
	m     api.Model
	items []api.Item
	ids   []string
}

// collect lists the items, and reports whether they are neither too many nor too deep.
func (c *checker) collect() bool {
	fits := true
	walk(c.m, func(i api.Item, around []string) bool {
		fits = len(c.items) < api.MaxItems && len(around) < api.MaxDepth
		c.items = append(c.items, i)
		c.ids = append(c.ids, i.ID)
		return fits
	})
	return fits
}

// itemFault returns what is wrong with the item of an index, apart from its conditions.
func (c *checker) itemFault(k int) api.Errno {
	i := c.items[k]
	switch {
	case !shape.Name(i.ID), !title(i.Name):
		return api.ErrName
	case slices.Contains(c.ids[:k], i.ID):
		return api.ErrTwice
	case !formed(i):
		return api.ErrModel
	}
	return c.rolesFault(i.Roles)
}

// formed reports whether an item is of a kind, and has no fields but those of its kind.
func formed(i api.Item) bool {
	stage, task := i.Kind == api.ItemStage, Task(i.Kind)
	work := stage || task
	milestone, listener, timer := i.Kind == api.ItemMilestone, i.Kind == api.ItemListener, i.Kind == api.ItemTimer
	return (work || milestone || listener || timer) &&
		(work || milestone || len(i.Entry) == 0 && i.Required == "" && i.Repeat == "") &&
		(work || len(i.Exit) == 0 && i.Manual == "") &&
		(work || listener || len(i.Roles) == 0) &&
		(stage || !i.Auto && len(i.Kids) == 0 && len(i.Table) == 0) &&
		(task || !i.Free) &&
		(timer && between(1, i.After, maxAfter) || !timer && i.After == 0)
}

// rolesFault returns what is wrong with the roles of an item.
func (c *checker) rolesFault(l []string) api.Errno {
	if len(l) > api.MaxParts {
		return api.ErrFull
	}
	for _, role := range l {
		if !slices.Contains(c.m.Roles, role) {
			return api.ErrName
		}
	}
	if twice(l) {
		return api.ErrTwice
	}
	return api.OK
}

// conditionFault returns what is wrong with the sentries and the rules of an item.
func (c *checker) conditionFault(i api.Item) api.Errno {
	for _, side := range [...][]api.Sentry{i.Entry, i.Exit} {
		if len(side) > api.MaxParts {
			return api.ErrFull
		}
		for _, s := range side {
			if err := c.sentryFault(i.ID, s); err != api.OK {
				return err
			}
		}
	}
	for _, rule := range [...]string{i.Manual, i.Required, i.Repeat} {
		if err := c.truthFault(rule); err != api.OK {
			return err
		}
	}
	return api.OK
}

// sentryFault returns what is wrong with a sentry of the item with an ID.
func (c *checker) sentryFault(id string, s api.Sentry) api.Errno {
	if len(s.On) > api.MaxParts {
		return api.ErrFull
	}
	if len(s.On) == 0 && s.If == "" {
		return api.ErrModel
	}
	for _, on := range s.On {
		if err := c.onFault(id, on); err != api.OK {
			return err
		}
	}
	return c.truthFault(s.If)
}

// onFault returns what is wrong with an on-part of the item with an ID.
func (c *checker) onFault(id string, on api.OnPart) api.Errno {
	if (on.Item == "") == (on.File == "") || on.Item == id {
		return api.ErrModel
	}
	fits, is := c.waits(on)
	switch {
	case !is:
		return api.ErrName
	case !fits:
		return api.ErrModel
	}
	return api.OK
}

// waits reports whether the source of an on-part has such an event, and whether there is such a source.
func (c *checker) waits(on api.OnPart) (fits, is bool) {
	if on.File != "" {
		_, is := shape.Find(c.m.Files, on.File)
		return FileEvent(on.Event), is
	}
	k := slices.Index(c.ids, on.Item)
	if k < 0 {
		return false, false
	}
	return Events(c.items[k].Kind, on.Event), true
}

func (c *checker) truthFault(condition string) api.Errno {
	return check.Truth(condition, c.m.Files, c.ids)
}

// title reports whether s can be the name of a model or an item.
func title(s string) bool { return len(s) <= api.MaxName && chars.Wrong([]byte(s)) < 0 }

// twice reports whether two elements of l are equal.
func twice(l []string) bool {
	for k, s := range l {
		if slices.Contains(l[:k], s) {
			return true
		}
	}
	return false
}
