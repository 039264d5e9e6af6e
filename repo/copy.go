package repo

import (
	"slices"

	"dossier/api"
)

// copied returns a model in new memory.
func copied(m api.Model) api.Model {
	m.Roles = slices.Clone(m.Roles)
	m.Files = copiedFiles(m.Files)
	m.Plan = copiedItem(m.Plan)
	return m
}

func copiedFiles(l []api.FileItem) []api.FileItem {
	l = slices.Clone(l)
	for k := range l {
		l[k].Kids, l[k].Refs = copiedFiles(l[k].Kids), slices.Clone(l[k].Refs)
	}
	return l
}

func copiedItem(i api.Item) api.Item {
	i.Entry, i.Exit = copiedSentries(i.Entry), copiedSentries(i.Exit)
	i.Roles = slices.Clone(i.Roles)
	i.Kids, i.Table = copiedItems(i.Kids), copiedItems(i.Table)
	return i
}

func copiedItems(l []api.Item) []api.Item {
	l = slices.Clone(l)
	for k := range l {
		l[k] = copiedItem(l[k])
	}
	return l
}

func copiedSentries(l []api.Sentry) []api.Sentry {
	l = slices.Clone(l)
	for k := range l {
		l[k].On = slices.Clone(l[k].On)
	}
	return l
}
