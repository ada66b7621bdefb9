package desk_test

import (
	"encoding/binary"
	"encoding/hex"
	"hash/crc32"
	"strconv"
	"strings"
	"testing"

	"scarab/api"
)

// summed are bytes as a word, given without blanks but for those between them, with their sum behind them.
func summed(t *testing.T, digits string) string {
	t.Helper()
	b, err := hex.DecodeString(strings.ReplaceAll(digits, " ", ""))
	if err != nil {
		t.Fatal(err)
	}
	return hex.EncodeToString(binary.BigEndian.AppendUint32(b, crc32.ChecksumIEEE(b)))
}

// noughts are so many noughts, with a blank ahead of each.
func noughts(n int) string { return strings.Repeat(" 0", n) }

// storesCode is the program stores in bytes, without its sum.
const storesCode = "5343524201 010000 00 00 02 00010003 3e000100 330000 2d 00010002 330000 2d"

// 28.2: program, bytes, text, code, sum.
func TestProgramCommands(t *testing.T) {
	b := summed(t, storesCode)
	sum, _ := strconv.ParseUint(b[len(b)-8:], 16, 32)
	tells(t, stores,
		"text", `"scarab\nvar 0\nfunc 0 1\nspawn _ f1 r0\nstore v0 r0\nend\nfunc 0 1\nstore v0 r0\nend\n"`,
		"code", "code "+b,
		"sum", "sum "+strconv.FormatUint(sum, 10))
	plays(t, "bytes "+b+"\ntext\ncode", "program 5 3\n"+
		`"scarab\nvar 0\nfunc 0 1\nspawn _ f1 r0\nstore v0 r0\nend\nfunc 0 1\nstore v0 r0\nend\n"`+"\ncode "+b+"\n")
	last := b[:len(b)-2]
	plays(t, "bytes "+last, "error 10 31\n")
	plays(t, "bytes "+b+"00", "error 13 35\n")
	plays(t, "bytes "+last+map[bool]string{true: "01", false: "00"}[strings.HasSuffix(b, "00")], "error 41 31\n")
	plays(t, "bytes 5343524201", "error 10 5\n")
	plays(t, "bytes 534352420109", "error 30 5\n")
	plays(t, "bytes ff", "error 40 0\n")
	plays(t, laid("scarab\nfunc 0 1\nload v0 r0\n"), "error 50 3\n")
	plays(t, laid("scarab\nvar 01\n"), "error 51 2\n")
	plays(t, laid("scarab\nfunc 0\n"), "error 52 2\n")
	plays(t, laid("scarab\nfunc 0 0\nyield\n"), "error 39 0\n")
}

// 28.2: what is laid stays till another one is; one that is not right changes nothing.
func TestLaid(t *testing.T) {
	b := summed(t, storesCode)
	script := laid(pair) + "all tree\nprogram\nall tree\nbytes ff\nall tree\n" + laid("scarab\nfunc") + "all tree\n" + laid(lone) + "all tree\nbytes " + b + "\nclasses\n"
	plays(t, script, "program 5 3\nall 2 0 0 complete\nerror 53 0\nall 2 0 0 complete\nerror 40 0\nall 2 0 0 complete\nerror 52 2\nall 2 0 0 complete\n"+
		"program 2 1\nall 1 0 0 complete\nprogram 5 3\nclasses 2 complete\n")
	// the budget stays too.
	plays(t, "budget 1 1 1\n"+laid(pair)+"all tree\n"+laid(stores)+"all tree", "ok\nprogram 5 3\nall 1 0 1 open\nprogram 5 3\nall 1 0 1 open\n")
}

// 28.2: budget: the one at first, the edges of right ones, and what stays where one is none.
func TestBudget(t *testing.T) {
	picks := func(n int) string { return strings.Repeat(" 0.0", n) }
	events := func(n int) string { return strings.Repeat(" 0.64.0", n) }
	tells(t, loops,
		"run"+picks(63), "run"+events(63),
		"run"+picks(64), "run"+events(64)+" cut",
		"run"+picks(65), "error 2 64",
		"budget 256 4096 65536", "ok",
		"run"+picks(256), "run"+events(256)+" cut",
		"run"+picks(257), "error 2 0",
		"budget 257 0 0", "error 6",
		"budget 0 4097 0", "error 6",
		"budget 0 0 65537", "error 6",
		"budget 999999999 999999999 999999999", "error 6",
		"run"+picks(256), "run"+events(256)+" cut",
		"budget 0 0 0", "ok",
		"run", "run cut",
		"run 0.0", "error 2 0",
		"budget 2 9 3", "ok",
		"run 0.0 0.0", "run 0.64.0 0.64.0 cut",
		"all tree", "all 1 0 1 open")
	// so many local instructions, of which the fuel at first is enough for 256.
	local := "scarab\nfunc 0 2\nconst r0 126\nconst r1 1\nsub r0 r0 r1\nif r0 @2\nmove r0 r1\nend\n"
	tells(t, local, "all tree", "all 1 0 0 complete", "budget 64 255 4096", "ok", "all tree", "all 1 0 0 open")
	tells(t, strings.Replace(local, "move r0 r1\n", "move r0 r1\nmove r0 r1\n", 1), "all tree", "all 1 0 0 open", "budget 64 257 4096", "ok", "all tree", "all 1 0 0 complete")
	many := "scarab\nfunc 0 0\nspawn _ f1 r0\nspawn _ f1 r0\nspawn _ f1 r0\nend\nfunc 0 0\nyield\nyield\nyield\nyield\nend\n"
	tells(t, many, "all tree", "all 4096 0 0 open", "budget 64 256 4097", "ok", "all tree", "all 4097 0 0 open", "all sleep", "all 1 0 0 complete")
}

// 28.2: idle, longest, start.
func TestTextCommands(t *testing.T) {
	tells(t, stores, "idle", "idle")
	tells(t, "scarab\nfunc 0 1\njump @2\nyield\nend\nfunc 0 0\nend\nfunc 0 1\nconst r0 1\njump @0\n",
		"idle", "idle f0:1 f1:0 f2:0 f2:1",
		"longest 0 0", "longest 2", "longest 0 1", "longest 0", "longest 1 0", "longest 1", "longest 2 1", "longest -1",
		"longest 3 0", "error 1", "longest 0 3", "error 1", "longest 999999999 999999999", "error 1",
		"start", "state"+noughts(48)+" 3 0 2 0"+noughts(8+60)+" 1",
		"budget 9 1 9", "ok",
		"start", "state"+noughts(48)+" 5 0 2 0"+noughts(8+60)+" 1")
	tells(t, "scarab\natomic -5\nvar 7\nfunc 0 2\nconst r1 9\nload r0 v0\nend\n", "start", "state -5 7"+noughts(46)+" 1 0 1 0 0 9"+noughts(6+60)+" 1")
}

// 28.2: run, end, ready.
func TestRunCommands(t *testing.T) {
	tells(t, "scarab\natomic -5\nfunc 0 2\nload r0 v0\nbump r1 v0 r0\nnote r1 7\nend\n",
		"run", "run",
		"run 0.0 0.0 0.0", "run 0.50.-5 0.52.-5 0.65.-5",
		"run 0.0 0.0 0.0 0.0", "error 5 3",
		"end", "end -5"+noughts(47)+" 1"+noughts(11+60)+" 1",
		"end 0.0", "end -5"+noughts(47)+" 1 0 1 0 -5"+noughts(7+60)+" 1",
		"end 0.0 0.0 0.0", "end -10"+noughts(47)+" 3 0 3"+noughts(9+60)+" 1",
		"end 0.0 1.0", "error 5 1",
		"ready", "ready 0.0", "ready 0.0 0.0 0.0", "ready", "ready 0.1", "error 5 0")
	tells(t, stores, "run 0.0 1.0 0.0", "run 0.62.1 1.51.0 0.51.0", "run 1.0", "error 5 0", "run 0.0 0.0 0.0", "error 5 2", "ready 0.0", "ready 0.0 1.0",
		"budget 2 9 9", "ok", "run 0.0 0.0", "run 0.62.1 0.51.0 cut", "run 0.0 0.0 1.0", "error 2 2", "end 0.0 0.0 1.0", "error 2 2", "ready 0.0 0.0 1.0", "error 2 2")
	choice := "scarab\nchan 1\nchan 1\nfunc 0 1\nchoose @2\nonrecv c0 r0 @3\nonsend c1 r0 @3\nsend c0 r0\nselect s0\nyield\nend\n"
	tells(t, choice, "ready", "ready 0.0", "ready 0.0", "ready 0.0 0.1", "run 0.0 0.1", "run 0.58.0 0.61.0", "ready 0.0 0.2", "error 5 1", "run 0.0 0.1 0.0", "error 5 2")
}

// 28.2: choose, robin.
func TestMadeSchedules(t *testing.T) {
	tells(t, pair,
		"choose", "picks", "choose 0 1 5", "picks 0.0 1.0 0.0", "choose 7 2 999999999 4 4", "picks 0.0 0.0 1.0",
		"choose"+noughts(256), "picks 0.0 0.0 1.0", "choose"+noughts(257), "error 2",
		"robin", "picks 0.0 1.0 0.0",
		"budget 2 9 9", "ok", "choose 0 0 0 0", "picks 0.0 0.0", "robin", "picks 0.0 1.0", "budget 0 9 9", "ok", "robin", "picks", "choose 1", "picks")
}

// 28.2: order, form, race, shows, locks.
func TestTraceCommands(t *testing.T) {
	tells(t, pair,
		"order", "order", "order 0.0 0.0 1.0", "order 0-1 0-2", "order 0.0 1.0 0.0", "order 0-1 0-2", "order 1.0", "error 5 0", "order 0.0 0.0 0.0", "error 5 2",
		"form", "form", "form 0.0 0.0 1.0", "form 0 1 2", "form 0.0 1.0 0.0", "form 0 2 1", "form 0.0 2.0", "error 5 1")
	tells(t, stores,
		"order 0.0 1.0 0.0", "order 0-1 1-2", "race", "race", "race 0.0 0.0", "race", "race 0.0 0.0 1.0", `race "race on v0 at f0:1 and f1:0"`,
		"race 0.0 1.0 0.0", `race "race on v0 at f0:1 and f1:0"`, "race 0.0 1.0 1.0", "error 5 2",
		"shows", "shows", "shows 0.0 0.0 1.0", `shows "race on v0 at f0:1 and f1:0"`, "shows 0.0 1.0 1.0", "error 5", "shows 3.0", "error 5")
	tells(t, twice, "shows", "shows", "shows 0.0", `shows "deadlock at f0:1"`, "shows"+strings.Repeat(" 0.0", 257), "error 2", "shows"+strings.Repeat(" 0.0", 65), "error 2")
	tells(t, "scarab\nvar 0\nfunc 0 1\nspawn _ f1 r0\nstore v0 r0\nassert r0 1\nend\nfunc 0 1\nload r0 v0\ndiv r0 r0 r0\nend\n",
		"shows 0.0 0.0 1.0", `shows "assert at f0:2" "fault 2 at f1:1" "race on v0 at f0:1 and f1:0"`, "shows 0.0 1.0", `shows "fault 2 at f1:1"`)
	tells(t, crossed,
		"locks", "locks", "locks 0.0 0.0 0.0 0.0 0.0 1.0 1.0", "locks 0-1", "locks 0.0 0.0 0.0", "locks", "locks 0.0 0.0 1.0", "locks", "locks 0.0 0.0 1.0 0.0", "error 5 3")
	three := "scarab\nmutex\nmutex\nmutex\nfunc 0 0\nspawn _ f1 r0\nspawn _ f2 r0\nlock l0\nlock l1\nlock l2\nunlock l2\nunlock l1\nunlock l0\nend\n" +
		"func 0 0\nlock l1\nlock l0\nunlock l0\nunlock l1\nend\nfunc 0 0\nlock l2\nlock l0\nunlock l0\nunlock l2\nend\n"
	tells(t, three, "locks"+strings.Repeat(" 0.0", 8)+strings.Repeat(" 1.0", 4)+strings.Repeat(" 2.0", 4), "locks 0-1 0-2")
	ring := "scarab\nmutex\nmutex\nmutex\nfunc 0 0\nspawn _ f1 r0\nspawn _ f2 r0\nlock l0\nlock l2\nunlock l2\nunlock l0\nend\n" +
		"func 0 0\nlock l1\nlock l0\nunlock l0\nunlock l1\nend\nfunc 0 0\nlock l2\nlock l1\nunlock l1\nunlock l2\nend\n"
	tells(t, ring, "locks"+strings.Repeat(" 0.0", 6)+strings.Repeat(" 1.0", 4)+strings.Repeat(" 2.0", 4), "locks 0-2-1")
}

// 28.2: all, classes, graph, paths.
func TestWholeCommands(t *testing.T) {
	tells(t, pair,
		"all tree", "all 2 0 0 complete", "all sleep", "all 1 0 0 complete", "all persist", "all 1 0 0 complete", "all dpor", "all 1 0 0 complete",
		"classes", "classes 1 complete",
		"graph 9", "graph 5 5 1 0 complete", "graph 5", "graph 5 5 1 0 complete", "graph 2", "graph 2 3 0 0 open", "graph 1", "graph 1 1 0 0 open",
		"graph 65536", "graph 5 5 1 0 complete", "graph 65537", "error 1", "graph 0", "error 1",
		"paths 9", "paths 2", "paths 4", "paths none", "paths 0", "error 1", "paths 65537", "error 1",
		"budget 2 9 9", "ok", "all tree", "all 2 0 2 open", "classes", "classes 0 open", "graph 9", "graph 5 5 1 0 complete",
		"budget 9 9 1", "ok", "all tree", "all 1 0 0 open", "classes", "classes 1 open",
		"budget 9 9 0", "ok", "all tree", "all 0 0 0 open", "classes", "classes 0 open")
	tells(t, stores, "all tree", "all 2 0 0 complete", "all dpor", "all 2 0 0 complete", "classes", "classes 2 complete", "graph 9", "graph 5 5 1 0 complete")
	tells(t, loops, "all tree", "all 1 0 1 open", "classes", "classes 0 open", "graph 9", "graph 1 1 0 1 complete", "paths 9", "paths none")
	// the graph hangs on the budget's fuel: with none main is spun at once.
	tells(t, "scarab\nfunc 0 1\nconst r0 1\nyield\nend\n", "graph 9", "graph 2 1 1 0 complete", "paths 9", "paths 1", "budget 9 0 9", "ok", "graph 9", "graph 1 0 1 0 complete", "paths 9", "paths 1")
	// main has a select between two, of which one goes round.
	tells(t, "scarab\nchan 1\nfunc 0 1\nchoose _\nonrecv c0 r0 @1\nonrecv c0 r0 @2\nclose c0\nselect s0\nend\n", "graph 9", "graph 3 3 1 1 complete", "paths 9", "paths none")
}

// 28.2: bound, sweep, guide, source, persist.
func TestSearchCommands(t *testing.T) {
	tells(t, pair,
		"bound 0", "bound 1 complete", "bound 1", "bound 2 complete", "bound 256", "bound 2 complete", "bound 257", "error 1",
		"sweep 1 0", "sweep 1 complete", "sweep 2 0", "sweep 2 complete", "sweep 1 1", "sweep 2 complete", "sweep 4 2", "sweep 2 complete",
		"sweep 0 0", "error 1", "sweep 5 0", "error 1", "sweep 1 3", "error 1",
		"guide", "guide", "guide 0.0 1.0 0.0", "guide 1", "guide 0.0 0.0 1.0", "guide", "guide 1.0", "error 5", "guide 0.0 0.0 0.0", "error 5",
		"source", "source 0 complete", "source 0.0", "source 0 complete", "source 0.0 0.0", "source 1 complete", "source 0.0 0.0 1.0", "source complete", "source 0.0 2.0", "error 5",
		"persist", "persist 0", "persist 0.0", "persist 0", "persist 0.0 0.0", "persist 1", "persist 0.0 0.0 1.0", "persist", "persist 0.0 2.0", "error 5 1",
		"budget 2 9 9", "ok", "bound 1", "bound 2 open", "sweep 2 0", "sweep 2 open", "source 0.0", "source 0 1 open", "source 0.0 0.0 1.0", "error 2", "guide 0.0 0.0 1.0", "error 2", "persist 0.0 0.0 1.0", "error 2 2",
		"budget 9 9 1", "ok", "bound 1", "bound 1 open", "sweep 2 0", "sweep 1 open", "source 0.0", "source 0 open")
	tells(t, stores, "source 0.0", "source 0 1 complete", "persist 0.0", "persist 0 1")
	tells(t, "scarab\nchan 1\nfunc 0 1\nchoose _\nonrecv c0 r0 @2\nonrecv c0 r0 @2\nclose c0\nselect s0\nend\n", "guide 0.0 0.0", "guide", "guide 0.0 0.1", "error 9")
}

// 28.2: report, shrink, check.
func TestFoundCommands(t *testing.T) {
	for _, mode := range modes {
		tells(t, stores, "report "+mode, `report "race on v0 at f0:1 and f1:0"`, "shrink "+mode, `shrink "race on v0 at f0:1 and f1:0" 3`, "check "+mode, "check right 2 1")
		tells(t, crossed, "report "+mode, `report "deadlock at f0:2"`, "shrink "+mode, `shrink "deadlock at f0:2" 3`)
		tells(t, lone, "report "+mode, "report", "shrink "+mode, "shrink", "check "+mode, "check right 1 0")
		tells(t, loops, "report "+mode, "report", "shrink "+mode, "shrink", "check "+mode, "check open 1 0", "budget 9 9 0", "ok", "check "+mode, "check open 0 0")
		// what is found is told, be it all or not.
		tells(t, twice, "check "+mode, "check right 1 1", "budget 1 0 1", "ok", "check "+mode, "check right 1 1", "budget 0 0 1", "ok", "check "+mode, "check open 1 0")
		fails := "scarab\nfunc 0 1\nspawn _ f1 r0\nyield\nassert r0 0\nend\nfunc 0 0\nyield\njump @0\n"
		tells(t, fails, "budget 9 9 100", "ok", "report "+mode, `report "assert at f0:2"`, "shrink "+mode, `shrink "assert at f0:2" 2`)
	}
	tells(t, pair, "check tree", "check right 2 0", "check dpor", "check right 1 0")
	left := "scarab\nchan 0\nmutex\nfunc 0 0\nspawn _ f1 r0\nspawn _ f2 r0\nend\nfunc 0 1\nsend c0 r0\nend\nfunc 0 0\nlock l0\nlock l0\nend\n"
	tells(t, strings.Replace(left, "chan 0\nmutex\n", "mutex\nchan 0\n", 1), "report dpor", `report "leak at f1:0" "leak at f2:1"`, "shrink dpor", `shrink "leak at f1:0" 4 "leak at f2:1" 4`)
}

// 28.2: witness, replay.
func TestWitnessCommands(t *testing.T) {
	sum := encoded(t, parsed(t, crossed))
	head := "73636177 " + hex.EncodeToString(sum[len(sum)-4:])
	w := summed(t, head+" 03 0002 0000 00 00 40 8002 8020 03 0000 0000 0100")
	for _, mode := range modes {
		tells(t, crossed, "witness "+mode+" 0", "witness "+w, "witness "+mode+" 1", "error 9", "witness "+mode+" 999999999", "error 9", "replay "+w, "replay 3")
		tells(t, lone, "witness "+mode+" 0", "error 9")
	}
	raced := encoded(t, parsed(t, stores))
	tells(t, stores, "replay "+w, "error 270", "budget 2 1 9", "ok", "report tree", "report",
		"budget 3 1 9", "ok", "witness tree 0", "witness "+summed(t, "73636177 "+hex.EncodeToString(raced[len(raced)-4:])+" 05 0001 0100 00 00 03 01 09 03 0000 0000 0100"))
	tells(t, crossed,
		"replay 00", "error 40 0", "replay 73636177", "error 10 4", "replay "+w[:24], "error 41 8", "replay "+w[:len(w)-2], "error 41 "+strconv.Itoa(len(w)/2-5),
		"replay "+summed(t, head), "error 10 8", "replay "+summed(t, head+" 06"), "error 1 8", "replay "+summed(t, head+" 03 8000"), "error 12 9",
		"replay "+summed(t, head+" 03 0002 0000 00 00 40 8002 8020 00 00"), "error 13 21",
		"replay "+summed(t, head+" 03 0002 0000 00 00 40 8002 8020 00"), "error 271",
		"replay "+summed(t, head+" 03 0001 0000 00 00 40 8002 8020 03 0000 0000 0100"), "error 271",
		"replay "+summed(t, head+" 03 0002 0000 00 00 40 8002 8020 01 0100"), "error 5",
		"replay "+summed(t, head+" 03 0002 0000 00 00 02 8002 8020 03 0000 0000 0100"), "error 2",
		// the budget that counts is the witness's own.
		"budget 0 0 0", "ok", "replay "+w, "replay 3")
}

// 28.2: linear.
func TestLinearCommand(t *testing.T) {
	notes := "scarab\nfunc 0 2\nconst r0 5\nnote r0 41\nnote r0 42\nnote r0 51\nnote r0 52\nend\n"
	tells(t, notes,
		"linear queue", "linear", "linear register", "linear", "linear counter", "linear", "linear stack", "linear",
		"linear queue 0.0", "linear", "linear queue 0.0 0.0", "linear 0", "linear queue 0.0 0.0 0.0", "linear 0",
		"linear queue 0.0 0.0 0.0 0.0", "linear 0 1", "linear stack 0.0 0.0 0.0 0.0", "linear 0 1",
		"linear register 0.0", "error 260", "linear counter 0.0", "error 260", "linear queue 1.0", "error 5", "linear queue 0.0 1.0", "error 5",
		"linear queue"+strings.Repeat(" 0.0", 65), "error 2", "linear queue"+strings.Repeat(" 0.0", 257), "error 2")
	tells(t, strings.Replace(notes, "note r0 52", "note r1 52", 1), "linear queue 0.0 0.0 0.0 0.0", "not", "linear stack 0.0 0.0 0.0", "linear 0")
	tells(t, strings.Replace(notes, "note r0 41\n", "", 1), "linear queue 0.0", "error 260", "linear queue", "linear")
	tells(t, strings.NewReplacer("41", "21", "42", "22", "51", "11", "52", "12").Replace(notes), "linear register 0.0 0.0 0.0 0.0", "linear 0 1", "linear queue 0.0", "error 260")
	tells(t, strings.NewReplacer("41", "31", "42", "32", "51", "11", "52", "12").Replace(notes), "linear counter 0.0 0.0 0.0 0.0", "linear 0 1", "linear register 0.0", "error 260")
}

// 28.2: when more than MaxTranscript bytes are told, full is, and nothing more is done.
func TestFull(t *testing.T) {
	var text strings.Builder
	text.WriteString("scarab\n")
	for range api.MaxFuncs {
		text.WriteString("func 0 1\n" + strings.Repeat("high r0 r0 r0\n", api.MaxCode-1) + "end\n")
	}
	head := laid(text.String())
	lengths := map[string]int{}
	for _, line := range []string{"text", "start", "budget 257 0 0", "budget 1 1 1"} {
		lengths[line] = len(run(t, head+line)) - len(run(t, head))
	}
	for more := range 3 {
		n := 1<<20 - 1 + more
		script, left := head, n-len(run(t, head))
		for _, line := range []string{"text", "start", "budget 257 0 0"} {
			// 14 and all above are made of what the last two commands tell.
			many := max(0, left-14) / lengths[line]
			if line == "budget 257 0 0" {
				for many = 0; (left-many*lengths[line])%lengths["budget 1 1 1"] != 0; many++ {
				}
			}
			script += strings.Repeat(line+"\n", many)
			left -= many * lengths[line]
		}
		script += strings.Repeat("budget 1 1 1\n", left/lengths["budget 1 1 1"])
		s := run(t, script)
		told, full := strings.CutSuffix(s, "full\n")
		if len(told) != n || full != (n > 1<<20) || !strings.HasSuffix(told, "\n") {
			t.Errorf("%d: %d bytes, full %v", n, len(told), full)
		}
		longer := run(t, script+"sum\ncode\n")
		if n > 1<<20 && longer != s {
			t.Errorf("%d: more is told behind full", n)
		}
		if n <= 1<<20 {
			next := told + run(t, head+"sum")[len(run(t, head)):]
			if longer != next+"full\n" {
				t.Errorf("%d: %d bytes, not %d", n, len(longer), len(next)+5)
			}
		}
	}
}
