package model

import "dossier/api"

// The names of events by their numbers; 19 and 20 are no events.
var eventNames = [...]string{
	api.EvCreate:     "create",
	api.EvEnable:     "enable",
	api.EvDisable:    "disable",
	api.EvReenable:   "reenable",
	api.EvStart:      "start",
	api.EvManual:     "manualStart",
	api.EvComplete:   "complete",
	api.EvFault:      "fault",
	api.EvReactivate: "reactivate",
	api.EvSuspend:    "suspend",
	api.EvResume:     "resume",
	api.EvTerminate:  "terminate",
	api.EvExit:       "exit",
	api.EvParentStop: "parentTerminate",
	api.EvParentWait: "parentSuspend",
	api.EvParentGo:   "parentResume",
	api.EvOccur:      "occur",
	api.EvClose:      "close",
	api.EvReplace:    "replace",
	api.EvUpdate:     "update",
	api.EvDelete:     "delete",
	api.EvAddChild:   "addChild",
	api.EvCutChild:   "removeChild",
	api.EvAddRef:     "addReference",
	api.EvCutRef:     "removeReference",
}

// EventName returns the name of an event, "" if it is none.
func EventName(event int) string {
	if !between(0, event, len(eventNames)-1) {
		return ""
	}
	return eventNames[event]
}

// EventOf returns the event with a name, and false if there is none.
func EventOf(name string) (int, bool) {
	for event, s := range eventNames {
		if s != "" && s == name {
			return event, true
		}
	}
	return 0, false
}

// Events reports whether an on-part can wait for an event of an item of a kind.
func Events(kind, event int) bool {
	switch {
	case kind == api.ItemStage, Task(kind):
		return between(api.EvCreate, event, api.EvParentGo)
	case between(api.ItemMilestone, kind, api.ItemTimer):
		return occurring(event)
	}
	return false
}

// occurring reports whether an event is one of milestones, listeners and timers.
func occurring(event int) bool {
	switch event {
	case api.EvCreate, api.EvSuspend, api.EvResume, api.EvTerminate, api.EvParentStop, api.EvParentWait, api.EvParentGo, api.EvOccur:
		return true
	}
	return false
}

// FileEvent reports whether an on-part can wait for an event of a case file item.
func FileEvent(event int) bool {
	return event == api.EvCreate || between(api.EvReplace, event, api.EvCutRef)
}
