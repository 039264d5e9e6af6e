package report

import (
	"dossier/api"
	"dossier/engine"
	"dossier/model"
	"dossier/planning"
	"dossier/roles"
)

// Work returns the commands that a role can give in a case, instance after instance.
func Work(m api.Model, c api.Case, role string) []api.Command {
	var work []api.Command
	for _, x := range c.Insts {
		for _, event := range engine.Requests(m, c, x.Path, role) {
			work = append(work, api.Command{Verb: api.VerbDo, Case: c.ID, Role: role, Path: x.Path, Event: event})
		}
		if !activeStage(m, x) {
			continue
		}
		for _, id := range planning.Items(m, c, x.Path) {
			if roles.Check(m, id, role) == api.OK {
				work = append(work, api.Command{Verb: api.VerbPlan, Case: c.ID, Role: role, Path: x.Path, Name: id})
			}
		}
	}
	return work
}

// activeStage reports whether an instance is an Active one of a stage. Of several instances at one path, planning looks at the first only.
func activeStage(m api.Model, x api.Inst) bool {
	if x.State != api.Active {
		return false
	}
	i, is := model.Find(m, x.Item)
	return is && i.Kind == api.ItemStage
}
