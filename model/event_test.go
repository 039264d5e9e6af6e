package model

import (
	"math"
	"slices"
	"testing"

	"dossier/api"
)

// The names of events as the chapter lists them, those of case file items behind.
var listed = []string{"create", "enable", "disable", "reenable", "start", "manualStart", "complete", "fault", "reactivate", "suspend", "resume", "terminate", "exit", "parentTerminate", "parentSuspend", "parentResume", "occur", "close",
	"", "", "replace", "update", "delete", "addChild", "removeChild", "addReference", "removeReference"}

func far() []int {
	return []int{math.MinInt, -1 << 32, -100, -1, 0, 28, 29, 100, 256, 1<<32 + 1, 1<<32 + 7, math.MaxInt}
}

func TestP13_3EventNames(t *testing.T) {
	for k, name := range listed {
		if s := EventName(k + 1); s != name {
			t.Errorf("EventName(%d) = %q, want %q", k+1, s, name)
		}
		if event, is := EventOf(name); name != "" && (event != k+1 || !is) {
			t.Errorf("EventOf(%q) = %d, %t, want %d", name, event, is, k+1)
		}
	}
	for _, event := range far() {
		if s := EventName(event); s != "" {
			t.Errorf("EventName(%d) = %q", event, s)
		}
	}
	for _, name := range []string{"", " ", "Create", "create ", " create", "creat", "createe", "manual", "manualstart", "parentStop", "cutChild", "1", "\x00", "exit\n"} {
		if event, is := EventOf(name); event != 0 || is {
			t.Errorf("EventOf(%q) = %d, %t", name, event, is)
		}
	}
}

func TestP13_3Events(t *testing.T) {
	all := far()
	for event := -5; event < 40; event++ {
		all = append(all, event)
	}
	for _, event := range all {
		for kind := api.ItemStage; kind <= api.ItemTimer; kind++ {
			want := event >= 1 && event <= 16
			if kind >= api.ItemMilestone {
				want = slices.Contains([]int{1, 10, 11, 12, 14, 15, 16, 17}, event)
			}
			if Events(kind, event) != want {
				t.Errorf("Events(%d, %d) = %t", kind, event, !want)
			}
		}
		for _, kind := range []int{math.MinInt, -1, 8, 9, 1 << 32, math.MaxInt} {
			if Events(kind, event) {
				t.Errorf("Events(%d, %d)", kind, event)
			}
		}
		if want := event == 1 || event >= 21 && event <= 27; FileEvent(event) != want {
			t.Errorf("FileEvent(%d) = %t", event, !want)
		}
	}
}

func TestP13_3Task(t *testing.T) {
	for kind := -10; kind < 20; kind++ {
		if want := kind >= 1 && kind <= 4; Task(kind) != want {
			t.Errorf("Task(%d) = %t", kind, !want)
		}
	}
	for _, kind := range []int{math.MinInt, 1<<32 + 1, math.MaxInt} {
		if Task(kind) {
			t.Errorf("Task(%d)", kind)
		}
	}
}
