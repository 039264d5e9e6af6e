package states

import "dossier/api"

// A set of states has a bit for each of them.
type set uint

const (
	available  set = 1 << api.Available
	enabled    set = 1 << api.Enabled
	disabled   set = 1 << api.Disabled
	active     set = 1 << api.Active
	failed     set = 1 << api.Failed
	suspended  set = 1 << api.Suspended
	completed  set = 1 << api.Completed
	terminated set = 1 << api.Terminated
	closed     set = 1 << api.Closed

	all = available | enabled | disabled | active | failed | suspended | completed | terminated | closed
)

func (s set) has(state int) bool {
	return state >= 0 && s&(1<<state) != 0
}

// statesOf returns the states that an item of a kind, or the plan of a case, can be in.
func statesOf(kind int, root bool) set {
	switch {
	case root && kind == api.ItemStage:
		return active | failed | suspended | completed | terminated | closed
	case root:
		return 0
	case works(kind):
		return all &^ closed
	case occurs(kind):
		return available | suspended | completed | terminated
	}
	return 0
}

// A step leads from each of some states to another one.
type step struct {
	from set
	to   int
}

// stepOf returns the step of an event, one from no state if there is none. What leads back to the state before a suspension is no step.
func stepOf(kind int, root bool, event int) step {
	switch {
	case root:
		return planStep(event)
	case works(kind):
		return workStep(event)
	}
	return occurStep(event)
}

// planStep returns the steps of the plan of a case.
func planStep(event int) step {
	switch event {
	case api.EvComplete:
		return step{active, api.Completed}
	case api.EvFault:
		return step{active, api.Failed}
	case api.EvReactivate:
		return step{failed, api.Active}
	case api.EvSuspend:
		return step{active, api.Suspended}
	case api.EvResume:
		return step{suspended, api.Active}
	case api.EvTerminate:
		return step{active | failed | suspended, api.Terminated}
	case api.EvExit:
		return step{active | failed, api.Terminated}
	case api.EvClose:
		return step{completed | terminated | failed | suspended, api.Closed}
	}
	return step{}
}

// workStep returns the steps of stages and tasks.
func workStep(event int) step {
	switch event {
	case api.EvEnable:
		return step{available, api.Enabled}
	case api.EvDisable:
		return step{enabled, api.Disabled}
	case api.EvReenable:
		return step{disabled, api.Enabled}
	case api.EvStart:
		return step{available, api.Active}
	case api.EvManual:
		return step{enabled, api.Active}
	case api.EvComplete:
		return step{active, api.Completed}
	case api.EvFault:
		return step{active, api.Failed}
	case api.EvReactivate:
		return step{failed, api.Active}
	case api.EvSuspend:
		return step{active, api.Suspended}
	case api.EvTerminate:
		return step{active | suspended | failed, api.Terminated}
	case api.EvExit:
		return step{available | enabled | disabled | active | failed, api.Terminated}
	case api.EvParentStop:
		return step{available | enabled | disabled | active | failed | suspended, api.Terminated}
	case api.EvParentWait:
		return step{available | enabled | disabled | active | failed, api.Suspended}
	}
	return step{}
}

// occurStep returns the steps of milestones, listeners and timers.
func occurStep(event int) step {
	switch event {
	case api.EvOccur:
		return step{available, api.Completed}
	case api.EvSuspend, api.EvParentWait:
		return step{available, api.Suspended}
	case api.EvTerminate, api.EvParentStop:
		return step{available | suspended, api.Terminated}
	}
	return step{}
}
