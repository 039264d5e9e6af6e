package cascade

import (
	"math"
	"strings"
	"testing"

	"dossier/api"
	"dossier/model"
	"dossier/tree"
)

// crowd are instances below a stage in all states, and others around it.
const crowd = " p.1/s.1/l.1=1 p.1/s.1/l.2=7 p.1/s.1/t.1=1 p.1/s.1/t.2=2 p.1/s.1/t.3=3 p.1/s.1/t.4=5 p.1/s.1/t.5=6<4 p.1/s.1/t.6=6<14 p.1/s.1/t.7=7 p.1/s.1/t.8=8 p.1/s.1/u.1=4 p.1/s.1/u.1/m.1=1 p.1/s.1/u.1/v.1=4 p.1/s.1/w.1=6<1 p.1/s.10=4 p.1/s.10/t.1=4"

const stopped = " p.1/s.1/l.1=8 p.1/s.1/l.2=7 p.1/s.1/t.1=8 p.1/s.1/t.2=8 p.1/s.1/t.3=8 p.1/s.1/t.4=8 p.1/s.1/t.5=8 p.1/s.1/t.6=8 p.1/s.1/t.7=7 p.1/s.1/t.8=8 p.1/s.1/u.1=8 p.1/s.1/u.1/m.1=8 p.1/s.1/u.1/v.1=8 p.1/s.1/w.1=8 p.1/s.10=4 p.1/s.10/t.1=4"

const stops = ", p.1/s.1/l.1 parentTerminate, p.1/s.1/t.1 parentTerminate, p.1/s.1/t.2 parentTerminate, p.1/s.1/t.3 parentTerminate, p.1/s.1/t.4 parentTerminate, p.1/s.1/t.5 parentTerminate, p.1/s.1/t.6 parentTerminate, " +
	"p.1/s.1/u.1 parentTerminate, p.1/s.1/u.1/m.1 parentTerminate, p.1/s.1/u.1/v.1 parentTerminate, p.1/s.1/w.1 parentTerminate"

func TestP19_1Stop(t *testing.T) {
	for _, x := range []struct{ event, from, to int }{
		{api.EvComplete, 4, 7}, {api.EvTerminate, 4, 8}, {api.EvTerminate, 5, 8}, {api.EvTerminate, 6, 8}, {api.EvExit, 1, 8}, {api.EvExit, 4, 8}, {api.EvParentStop, 4, 8}, {api.EvParentStop, 2, 8},
	} {
		digits := "01234567890"
		wantDo(t, "p.1=4 p.1/s.1="+digits[x.from:x.from+1]+crowd, "p.1/s.1", x.event, "p.1=4 p.1/s.1="+digits[x.to:x.to+1]+stopped, "p.1/s.1 "+model.EventName(x.event)+stops)
	}
	wantDo(t, "p.1=3 p.1/l.1=1 p.1/l.1/l.2=6<1 p.1/m.1=1", "p.1/l.1", api.EvOccur, "p.1=3 p.1/l.1=7 p.1/l.1/l.2=8 p.1/m.1=1", "p.1/l.1 occur, p.1/l.1/l.2 parentTerminate")
}

func TestP19_1StopOfPlan(t *testing.T) {
	for _, x := range []struct {
		event    int
		from, to string
	}{
		{api.EvComplete, "4", "7"}, {api.EvTerminate, "6<4", "8"}, {api.EvExit, "5", "8"}, {api.EvClose, "5", "9"}, {api.EvClose, "6<4", "9"},
	} {
		wantDo(t, "p.1="+x.from+" p.1/a.1=4 p.1/s.1=6<14 p.1/s.1/t.1=6<4 p.1/z.1=7 p.2/a.1=4", "p.1", x.event,
			"p.1="+x.to+" p.1/a.1=8 p.1/s.1=8 p.1/s.1/t.1=8 p.1/z.1=7 p.2/a.1=4", "p.1 "+model.EventName(x.event)+", p.1/a.1 parentTerminate, p.1/s.1 parentTerminate, p.1/s.1/t.1 parentTerminate")
	}
	wantDo(t, "p.1=7 p.1/a.1=7", "p.1", api.EvClose, "p.1=9 p.1/a.1=7", "p.1 close")
}

const waiting = " p.1/s.1/l.1=6<11 p.1/s.1/l.2=7 p.1/s.1/t.1=6<11 p.1/s.1/t.2=6<12 p.1/s.1/t.3=6<13 p.1/s.1/t.4=6<15 p.1/s.1/t.5=6<4 p.1/s.1/t.6=6<14 p.1/s.1/t.7=7 p.1/s.1/t.8=8 p.1/s.1/u.1=6<14 p.1/s.1/u.1/m.1=6<11 p.1/s.1/u.1/v.1=6<14 p.1/s.1/w.1=6<1 p.1/s.10=4 p.1/s.10/t.1=4"

const waits = ", p.1/s.1/l.1 parentSuspend, p.1/s.1/t.1 parentSuspend, p.1/s.1/t.2 parentSuspend, p.1/s.1/t.3 parentSuspend, p.1/s.1/t.4 parentSuspend, " +
	"p.1/s.1/u.1 parentSuspend, p.1/s.1/u.1/m.1 parentSuspend, p.1/s.1/u.1/v.1 parentSuspend"

func TestP19_1Wait(t *testing.T) {
	wantDo(t, "p.1=4 p.1/s.1=4"+crowd, "p.1/s.1", api.EvSuspend, "p.1=4 p.1/s.1=6<4"+waiting, "p.1/s.1 suspend"+waits)
	wantDo(t, "p.1=4 p.1/s.1=4"+crowd, "p.1/s.1", api.EvParentWait, "p.1=4 p.1/s.1=6<14"+waiting, "p.1/s.1 parentSuspend"+waits)
	wantDo(t, "p.1=4 p.1/a.1=3 p.1/s.1=6<4 p.1/s.1/t.1=6<12 p.1/z.1=7", "p.1", api.EvSuspend, "p.1=6<4 p.1/a.1=6<13 p.1/s.1=6<4 p.1/s.1/t.1=6<12 p.1/z.1=7", "p.1 suspend, p.1/a.1 parentSuspend")
}

func TestP19_1Go(t *testing.T) {
	const (
		gone = " p.1/s.1/l.1=1 p.1/s.1/l.2=7 p.1/s.1/t.1=1 p.1/s.1/t.2=2 p.1/s.1/t.3=3 p.1/s.1/t.4=5 p.1/s.1/t.5=6<4 p.1/s.1/t.6=4 p.1/s.1/t.7=7 p.1/s.1/t.8=8 p.1/s.1/u.1=4 p.1/s.1/u.1/m.1=1 p.1/s.1/u.1/v.1=4 p.1/s.1/w.1=6<1 p.1/s.10=4 p.1/s.10/t.1=4"
		goes = ", p.1/s.1/l.1 parentResume, p.1/s.1/t.1 parentResume, p.1/s.1/t.2 parentResume, p.1/s.1/t.3 parentResume, p.1/s.1/t.4 parentResume, p.1/s.1/t.6 parentResume, " +
			"p.1/s.1/u.1 parentResume, p.1/s.1/u.1/m.1 parentResume, p.1/s.1/u.1/v.1 parentResume"
	)
	wantDo(t, "p.1=4 p.1/s.1=6<4"+waiting, "p.1/s.1", api.EvResume, "p.1=4 p.1/s.1=4"+gone, "p.1/s.1 resume"+goes)
	// What is below an instance that was suspended by itself, or that is not suspended, stays.
	wantDo(t, "p.1=6<4 p.1/a.1=4 p.1/a.1/a.1=6<14 p.1/s.1=6<4 p.1/s.1/t.1=6<14 p.1/s.1/u.1=6<14 p.1/s.1/u.1/v.1=6<12 p.1/s.2=6<14 p.1/s.2/t.1=6<4 p.1/s.2/u.1=6<4 p.1/s.2/u.1/v.1=6<14 p.1/s.2/w.1=6<11 p.1/z.1=6<11", "p.1", api.EvResume,
		"p.1=4 p.1/a.1=4 p.1/a.1/a.1=6<14 p.1/s.1=6<4 p.1/s.1/t.1=6<14 p.1/s.1/u.1=6<14 p.1/s.1/u.1/v.1=6<12 p.1/s.2=4 p.1/s.2/t.1=6<4 p.1/s.2/u.1=6<4 p.1/s.2/u.1/v.1=6<14 p.1/s.2/w.1=1 p.1/z.1=1",
		"p.1 resume, p.1/s.2 parentResume, p.1/s.2/w.1 parentResume, p.1/z.1 parentResume")
	// A gap is no parent, and others than EvResume resume nobody else.
	wantDo(t, "p.1=6<4 p.1/s.1/t.1=6<14", "p.1", api.EvResume, "p.1=4 p.1/s.1/t.1=6<14", "p.1 resume")
	wantDo(t, "p.1=4 p.1/s.1=6<14 p.1/s.1/t.1=6<14", "p.1/s.1", api.EvParentGo, "p.1=4 p.1/s.1=4 p.1/s.1/t.1=6<14", "p.1/s.1 parentResume")
	wantDo(t, "p.1=4 p.1/s.1=5 p.1/s.1/t.1=6<14", "p.1/s.1", api.EvReactivate, "p.1=4 p.1/s.1=4 p.1/s.1/t.1=6<14", "p.1/s.1 reactivate")
	wantDo(t, "p.1=4 p.1/l.1=6<1 p.1/l.1/l.1=6<11", "p.1/l.1", api.EvResume, "p.1=4 p.1/l.1=1 p.1/l.1/l.1=1", "p.1/l.1 resume, p.1/l.1/l.1 parentResume")
}

// What a stage and all below it were, they are again.
func TestP19_1There(t *testing.T) {
	c := cased(office(), "p.1=4 p.1/s.1=4"+strings.Replace(crowd, "p.1/s.1/t.6=6<14 ", "", 1))
	for _, path := range []string{"p.1", "p.1/s.1", "p.1/s.1/u.1", "p.1/s.10/t.1"} {
		d, _, err := Do(office(), c, path, api.EvSuspend, 17)
		if err != api.OK || tree.Same(c, d) {
			t.Fatal(path, err)
		}
		d, _, err = Do(office(), d, path, api.EvResume, 17)
		if err != api.OK || !tree.Same(c, d) {
			t.Errorf("%s: error %d, %+v", path, err, d)
		}
	}
}

// Instances of items that are not in the model, or in states that there are not, do not move.
func TestP19_1Strangers(t *testing.T) {
	wantDo(t, "p.1=4 p.1/a.1=0 p.1/a.2=9 p.1/l.1=4 p.1/none.1=4 p.1/none.1/a.1=4", "p.1", api.EvComplete, "p.1=7 p.1/a.1=0 p.1/a.2=9 p.1/l.1=4 p.1/none.1=4 p.1/none.1/a.1=8", "p.1 complete, p.1/none.1/a.1 parentTerminate")
	wantDo(t, "p.1=4 p.1/a.1=-1 p.1/a.2=99 p.1/l.1=5 p.1/none.1=1", "p.1", api.EvSuspend, "p.1=6<4 p.1/a.1=-1 p.1/a.2=99 p.1/l.1=5 p.1/none.1=1", "p.1 suspend")
	wantDo(t, "p.1=6<4 p.1/a.1=6<16 p.1/a.2=6<17 p.1/l.1=6<14 p.1/none.1=6<14 p.1/none.1/a.1=6<14", "p.1", api.EvResume, "p.1=4 p.1/a.1=6<16 p.1/a.2=6<17 p.1/l.1=6<14 p.1/none.1=6<14 p.1/none.1/a.1=6<14", "p.1 resume")
	// In a case made by hand the order is that of the list, and two at one path are two.
	wantDo(t, "p.1/z.1=4 p.1/a.1=4 p.1=4 p.1/a.1=1 x=1 p.1/x=4 p.1/a.1=8", "p.1", api.EvComplete, "p.1/z.1=8 p.1/a.1=8 p.1=7 p.1/a.1=8 x=1 p.1/x=4 p.1/a.1=8", "p.1 complete, p.1/z.1 parentTerminate, p.1/a.1 parentTerminate, p.1/a.1 parentTerminate")
	wantDo(t, "p.1/s.1/t.1=6<14 p.1/s.1=6<14 p.1=6<4 p.1/s.1/t.2=6<14", "p.1", api.EvResume, "p.1/s.1/t.1=6<14 p.1/s.1=4 p.1=4 p.1/s.1/t.2=4", "p.1 resume, p.1/s.1 parentResume, p.1/s.1/t.2 parentResume")
	// An empty path is above those that begin with "/", which are plans by their paths.
	c := cased(office(), "=4 /a.1=4 /a.1/t.1=4 p.1=4")
	c.Insts[0].Item = "p"
	got, l, err := Do(office(), c, "", api.EvComplete, 4)
	want := tree.Copy(c)
	want.Insts[0].State, want.Insts[2].State = api.Completed, api.Terminated
	wantDone(t, "an empty path", got, l, err, want, []api.Event{{Event: api.EvComplete}, {Path: "/a.1/t.1", Event: api.EvParentStop}})
}

func TestP19_1Budget(t *testing.T) {
	c := cased(office(), "p.1=4 p.1/s.1=1")
	for most := -2; most <= 8; most++ {
		if most < 6 {
			wantDoError(t, office(), c, "p.1/s.1", api.EvStart, most, api.ErrBudget)
			continue
		}
		got, l, err := Do(office(), c, "p.1/s.1", api.EvStart, most)
		wantDone(t, "start", got, l, err, cased(office(), "p.1=4 p.1/s.1=4 "+startedInsts), told("p.1/s.1 start, "+startedStage))
	}
	for _, most := range []int{math.MinInt, -1 << 32, 1, 5} {
		wantDoError(t, office(), c, "p.1/s.1", api.EvStart, most, api.ErrBudget)
	}
	if got, _, err := Do(office(), c, "p.1/s.1", api.EvStart, math.MaxInt); err != api.OK || len(got.Insts) != 6 {
		t.Error(got, err)
	}
	// A case that has more of them already cannot keep them.
	for most := range 2 {
		wantDoError(t, office(), c, "p.1/s.1", api.EvEnable, most, api.ErrBudget)
		wantDoError(t, office(), c, "p.1", api.EvComplete, most, api.ErrBudget)
		wantDoError(t, office(), c, "p.1", api.EvStart, most, api.ErrState)
	}
	if got, _, err := Do(office(), c, "p.1/s.1", api.EvEnable, 2); err != api.OK || len(got.Insts) != 2 {
		t.Error(got, err)
	}
}

func TestP19_1Example(t *testing.T) {
	wantDo(t, "p.1=4 p.1/s.1=4 p.1/s.1/t.1=4 p.1/s.1/t.2=4", "p.1/s.1", api.EvSuspend, "p.1=4 p.1/s.1=6<4 p.1/s.1/t.1=6<14 p.1/s.1/t.2=6<14", "p.1/s.1 suspend, p.1/s.1/t.1 parentSuspend, p.1/s.1/t.2 parentSuspend")
}
