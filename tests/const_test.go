package tests

import (
	"testing"

	"loop.example/catechist/impl"
)

func TestConstantsAreAsTold(t *testing.T) {
	table := []struct {
		name      string
		got, want int
	}{
		{"TrmVar", impl.TrmVar, 1},
		{"TrmNum", impl.TrmNum, 2},
		{"TrmFun", impl.TrmFun, 3},
		{"TrmMost", impl.TrmMost, 40},
		{"TrmArity", impl.TrmArity, 3},
		{"TrmName", impl.TrmName, 8},
		{"TrmVars", impl.TrmVars, 99999},
		{"TrmNums", impl.TrmNums, 9999},
		{"SubDone", impl.SubDone, 1},
		{"SubApart", impl.SubApart, 2},
		{"SubBig", impl.SubBig, 3},
		{"SubWrong", impl.SubWrong, 4},
		{"GoalCall", impl.GoalCall, 1},
		{"GoalSame", impl.GoalSame, 2},
		{"GoalCut", impl.GoalCut, 3},
		{"GoalLess", impl.GoalLess, 4},
		{"GoalPlus", impl.GoalPlus, 5},
		{"GoalExit", impl.GoalExit, 6},
		{"PrgClauses", impl.PrgClauses, 12},
		{"PrgGoals", impl.PrgGoals, 4},
		{"PrgCells", impl.PrgCells, 12},
		{"PrgFree", impl.PrgFree, 8},
		{"PrgPlaces", impl.PrgPlaces, 6},
		{"PrgNodes", impl.PrgNodes, 3},
		{"SlvGoes", impl.SlvGoes, 1},
		{"SlvAnswer", impl.SlvAnswer, 2},
		{"SlvNone", impl.SlvNone, 3},
		{"SlvBig", impl.SlvBig, 4},
		{"SlvWrong", impl.SlvWrong, 5},
		{"SlvFuel", impl.SlvFuel, 12000},
		{"SlvWaits", impl.SlvWaits, 6},
		{"MsgAsk", impl.MsgAsk, 1},
		{"MsgTell", impl.MsgTell, 2},
		{"MsgMax", impl.MsgMax, 1100},
		{"MsgClient", impl.MsgClient, 3},
		{"NodMost", impl.NodMost, 32},
		{"NodSlice", impl.NodSlice, 40},
		{"EvAsk", impl.EvAsk, 1},
		{"EvRun", impl.EvRun, 2},
		{"EvHear", impl.EvHear, 3},
		{"EvLose", impl.EvLose, 4},
		{"EvTwice", impl.EvTwice, 5},
		{"EvBend", impl.EvBend, 6},
		{"EvFall", impl.EvFall, 7},
		{"EvRise", impl.EvRise, 8},
		{"NetMax", impl.NetMax, 160},
		{"EvMaxRun", impl.EvMaxRun, 300},
		{"CalmMax", impl.CalmMax, 400},
		{"DskMaxLines", impl.DskMaxLines, 150},
		{"DskFuel", impl.DskFuel, 1000},
	}
	for _, c := range table {
		if c.got != c.want {
			t.Errorf("%s is %d, want %d", c.name, c.got, c.want)
		}
	}
}
