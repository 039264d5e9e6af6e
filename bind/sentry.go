package bind

import (
	"dossier/api"
	"dossier/model"
)

// sentries returns the sentries of a stage to which the parts with a name refer.
func (r *reader) sentries(s *stage, e api.Element, name string) []api.Sentry {
	var l []api.Sentry
	for _, criterion := range parts(e, name) {
		sentry, is := s.sentries[get(criterion, "sentryRef")]
		need(is, api.ErrNone)
		l = append(l, r.sentry(sentry))
	}
	return l
}

func (r *reader) sentry(e api.Element) api.Sentry {
	var s api.Sentry
	for _, on := range chosen(e, isOn) {
		s.On = append(s.On, r.on(on))
	}
	s.If, _ = condition(part(e, "ifPart"))
	return s
}

const (
	onItem = "planItemOnPart"
	onFile = "caseFileItemOnPart"
)

func isOn(name string) bool { return name == onItem || name == onFile }

func (r *reader) on(e api.Element) api.OnPart {
	var on api.OnPart
	if e.Name == onItem {
		on.Item = get(e, "sourceRef")
	} else {
		on.File = r.path(get(e, "sourceRef"))
	}
	event, is := model.EventOf(only(e, "standardEvent").Text)
	need(is, api.ErrModel)
	on.Event = event
	return on
}

// path returns the path of the definition of the case file whose element has an ID.
func (r *reader) path(id string) string {
	p, is := r.places[id]
	need(is, api.ErrNone)
	return p.path()
}
