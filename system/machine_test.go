package system_test

import (
	"fmt"
	"strings"
	"testing"

	"tesseract/api"
	"tesseract/cluster"
	"tesseract/engine"
	"tesseract/query"
	"tesseract/system"
)

// P12.3: lines about the disk

func TestDisk(t *testing.T) {
	s := system.New()
	fails(t, s, api.ErrRange, "disk 63", "disk 2049", "disk -1", "disk 0")
	fails(t, s, api.ErrArg, "disk 64", "disk 2048") // a database without arrays
	does(t, s, "create t; x 0:3, y 0:1; v int")
	says(t, s, said{"disk 64", "room 22"}, said{"disk 65", "room 22"}, said{"disk 66", "room 23"}, said{"disk 2048", "room 1014"})
	does(t, s, "set t; 0 0: 5; 1 0: 7; 1 1: ?1; 3 1: 2")
	says(t, s, said{"disk 64", "room 10"}, said{"put a 1 t; 0 0: 1", "new"}, said{"pin t 1", "ok"}, said{"disk 64", "room 22"}, said{"put a 1 t; 0 0: 1", "new"}) // what it shows, and a new store
	does(t, s, "create u; x 0:3; v int", "create n; x 0:3; v int")
	says(t, s, said{"disk 64", "room 6"}, said{"put b 1 n; 0: 1", "new"})
	fails(t, s, api.ErrRange, "disk 63")
	does(t, s, "create a; x 0:3; v int")
	fails(t, s, api.ErrFull, "disk 64", "disk 67")
	says(t, s, said{"put b 2 n; 0: 2", "old"}, said{"load", "loaded 2"}, said{"show n", "dim x 0:3 / attr v int / 0: 1"}, said{"diff t 2 3", "0 0: / 1 0: / 1 1: / 3 1:"}) // the first disk remains
	fails(t, s, api.ErrNone, "put b 2 a; 0: 2")
}

func TestPut(t *testing.T) {
	s := begun(t)
	does(t, s, "disk 64")
	says(t, s, said{"put a 5 t; 2 0: 9; 0 0:", "new"}, said{"put a 6 t; 2 0: 8", "old"}, said{"put a 6 t; 0 1: 'x'", errorNumber(api.ErrType)}, said{"show t", shownTable}, said{"set t; 0 0: 6", "version 3"})
	fails(t, s, api.ErrName, "put A -1 none; 9 9: 1", "put 1 1 t; 0 0: 1")
	fails(t, s, api.ErrRange, "put a -1 none; 9 9: 1", "put b -1 t; 0 0: 1", "put b 1 t; 0 2: 1")
	fails(t, s, api.ErrNone, "put a 1 none; 9 9: 1", "put b 1 u; 0 0: 1")
	fails(t, s, api.ErrMany, "put b 1 t"+strings.Repeat("; 0 0: 1", 17), "put a 1 t"+strings.Repeat("; 9 9: 1", 17))
	fails(t, s, api.ErrShape, "put b 1 t; 0: 1", "put a 1 t; 0 0: 1, 2")
	fails(t, s, api.ErrType, "put b 1 t; 0 0: true")
	fails(t, s, api.ErrHave, "put b 1 t; 0 0: 1; 0 0: 1", "put b 1 t"+strings.Repeat("; 0 0: 1", 16))
	fails(t, s, api.ErrFull, "put b 1 t; 0 0: 1")
	says(t, s, said{"compact", "room 6"}, said{"compact", "room 6"})
	fails(t, s, api.ErrFull, "put b 1 t; 0 0: 1; 1 0: 1")
	says(t, s, said{"load", "loaded 1"}, said{"show t", "dim x 0:3 / dim y 0:1 / attr v int / 1 0: 7 / 1 1: ?1 / 2 0: 9 / 3 1: 2"}, said{"diff t 3 4", "0 0: / 2 0: 9"}, said{"load", "loaded 0"}, said{"show t", "dim x 0:3 / dim y 0:1 / attr v int / 1 0: 7 / 1 1: ?1 / 2 0: 9 / 3 1: 2"})
	// the arrays of the store are those when the disk was made
	says(t, s, said{"create u; y 0:1; w int", "ok"}, said{"put b 1 u; 0: 1", errorNumber(api.ErrNone)}, said{"disk 66", "room 3"}, said{"put b 1 u; 0: 1", errorNumber(api.ErrFull)}, said{"disk 200", "room 70"}, said{"put b 1 u; 0: 1", "new"}, said{"drop u", "ok"},
		said{"put c 1 u; 1: 1", "new"}, said{"load", "loaded 0"}, said{"create u; y 0:2; w int", "ok"}, said{"load", "loaded 0"}, said{"drop u", "ok"}, said{"create u; y 0:1; w rat", "ok"}, said{"load", "loaded 0"}, said{"drop u", "ok"},
		said{"create u; y 0:1; w2 int", "ok"}, said{"load", "loaded 0"}, said{"drop u", "ok"}, said{"create u; y 0:1; w int", "ok"}, said{"load", "loaded 1"}, said{"show u", "dim y 0:1 / attr w int / 0: 1 / 1: 1"})
}

func TestCrash(t *testing.T) {
	s := begun(t)
	says(t, s, said{"disk 200", "room 78"}, said{"put a 5 t; 2 0: 9", "new"}, said{"put b 5 t; 0 0: 1", "new"}, said{"recover", "batches 2"}, said{"crash 7,64,255", "ok"}, said{"show t", shownTable})
	fails(t, s, api.ErrArg, "crash 256", "crash -1", "crash 1,2,256,3", "crash "+strings.Repeat("1,", 256)+"256")
	fails(t, s, api.ErrLong, "crash "+strings.Repeat("1,", 256)+"1")
	fails(t, s, api.ErrDown, "crash -", "crash 1", "crash "+strings.Repeat("1,", 255)+"1", "compact", "load", "put c 1 t; 0 0: 1", "put A -1 none; 0: 1")
	says(t, s, said{"recover", "batches 2"}, said{"put b 6 t; 0 0: 7", "old"}, said{"put c 6 t; 0 0: 7", "new"}, said{"compact", "room 72"}, said{"crash -", "ok"}, said{"recover", "batches 3"}, said{"recover", "batches 3"},
		said{"load", "loaded 1"}, said{"show t", "dim x 0:3 / dim y 0:1 / attr v int / 0 0: 7 / 1 0: 7 / 1 1: ?1 / 2 0: 9 / 3 1: 2"}, said{"crash " + strings.Repeat("1,", 255) + "1", "ok"}, said{"disk 200", "room 75"})
	says(t, s, said{"put a 1 t; 0 0: 1", "new"}, said{"recover", "batches 1"}) // a new disk has power
}

// Load follows the order of the arrays, and stops at the first error.
func TestLoad(t *testing.T) {
	s := system.New()
	for _, name := range []string{"c", "a", "b", "d"} {
		does(t, s, "create "+name+"; x 0:9; v int")
	}
	does(t, s, "disk 200", "put p1 1 a; 0: 1", "put p2 1 b; 0: 2; 1: 2", "put p3 1 c; 0: 3", "put p4 1 d; 0: 4", "pin a 1", "branch a other 1", "commit a other 1; 0: 1", "pyramid a 5 1; sum(v) as s")
	for k := range 99 {
		does(t, s, fmt.Sprintf("set b; 9: %d", k))
	}
	says(t, s, said{"load", errorNumber(api.ErrFull)}, said{"heads a", "main 3 / other 2"}, said{"show a", "dim x 0:9 / attr v int"}, said{"version a 3", "dim x 0:9 / attr v int / 0: 1"}, said{"level a 1", "dim x 0:1 / attr s int / 0: 1"},
		said{"heads b", "main 100"}, said{"heads c", "main 1"}, said{"load", errorNumber(api.ErrFull)}, said{"heads a", "main 3 / other 2"}, said{"reclaim b -", "reclaimed 99"}, said{"load", "loaded 3"}, said{"show b", "dim x 0:9 / attr v int / 0: 2 / 1: 2"},
		said{"show c", "dim x 0:9 / attr v int / 0: 3"}, said{"show d", "dim x 0:9 / attr v int / 0: 4"}, said{"unpin a", "ok"}, said{"show a", "dim x 0:9 / attr v int / 0: 1"}, said{"load", "loaded 0"}, said{"drop d", "ok"}, said{"set c; 0:", "version 3"}, said{"load", "loaded 1"}, said{"log c", "1 - 0 0 / 2 1 1 1 / 3 2 2 1 / 4 3 3 1"})
}

// P12.3: lines about the cluster

func TestCluster(t *testing.T) {
	s := begun(t)
	fails(t, s, api.ErrState, "fail 9", "back -1", "join", "repair", "ask 1; select")
	fails(t, s, api.ErrArg, "cluster 0 1", "cluster 17 1", "cluster 1 0", "cluster 1 5", "cluster -1 -1")
	does(t, s, "layout t 1,1 0,0 rowmajor coords plain", "create u; y 1:5; w int", "set u; 1: 3; 4: 4", "pin u 2")
	says(t, s, said{"cluster 3 3", "ok"}, said{"set u; 1: 9", "version 3"}, said{"pin u 1", "ok"}, said{"layout t 8,8 0,0 rowmajor dense plain", "chunks 1"})
	fails(t, s, api.ErrRange, "fail 3", "back 3", "fail -1")
	fails(t, s, api.ErrState, "back 0", "back 2")
	says(t, s, said{"ask 0; select * from u where w > 3", "boxes 1 chunks 1 sent 0"}, said{"lineage 4; select * from u where w > 3", errorNumber(api.ErrNone)}, // of the database when the cluster was made
		said{"fail 1", "ok"}, said{"fail 1", errorNumber(api.ErrState)}, said{"back 1", "ok"}, said{"join", "worker 3"}, said{"join", "worker 4"}, said{"fail 4", "ok"})
	fails(t, s, api.ErrArg, "cluster 17 1")
	says(t, s, said{"back 4", "ok"}) // the first cluster remains
	for k := range 11 {
		says(t, s, said{"join", fmt.Sprint("worker ", k+5)})
	}
	fails(t, s, api.ErrMany, "join")
	says(t, s, said{"cluster 1 1", "ok"}, said{"ask 0,0; select * from t", "boxes 1 chunks 1 sent 0"}, said{"ask 0; select * from u", "boxes 1 chunks 0 sent 0"}, said{"fail 0", "ok"})
	fails(t, s, api.ErrDown, "ask 0,0; select * from t")
	fails(t, s, api.ErrShape, "ask 0; select * from t")
	says(t, s, said{"join", "worker 1"}, said{"repair", "copies 0 lost 1"})
	fails(t, s, api.ErrLost, "ask 0,0; select * from t")
	fails(t, s, api.ErrNone, "ask 0,0; select * from none")
	does(t, s, "drop t")
	fails(t, s, api.ErrLost, "ask 0,0; select * from t")
}

// The answers are those of a cluster with the same arrays and layouts, whatever fails.
func TestClusterByModel(t *testing.T) {
	d := dice(132)
	db := base()
	queries := []string{"select * from t", "select * from t merge t", "select sum(v) as s from w2 regrid by 2, 3", "select * from (select * from o where n > 1)[:3]", "select v, q from t join u where v > 3", "select avg(k) as m from g window 1 0, 0 1"}
	lost := 0
	for range 25 {
		workers, replicas := d.from(1, 6), d.from(1, 4)
		s := system.New()
		c, _ := cluster.New(workers, replicas)
		for _, x := range shuffled(&d, db) {
			creates(t, s, x.Name, x.Array)
			l, line := d.layout(x.Array)
			c.Put(x.Name, x.Array, l)
			does(t, s, "layout "+x.Name+" "+line)
		}
		does(t, s, fmt.Sprintf("cluster %d %d", workers, replicas), "set t; 3 0: 99")
		for range 30 {
			q := pick(&d, queries...)
			e, _, _ := query.Bind(db, q)
			plan, _, _ := engine.Plan(db, e)
			a := must(query.Schema(db, e))
			sides := many(len(a.Dims), func() int { return d.from(0, 3) })
			_, n, f := c.Run(plan, sides)
			says(t, s, said{"ask " + commas(sides) + "; " + q, either(f, fmt.Sprintf("boxes %d chunks %d sent %d", n.Boxes, n.Chunks, n.Sent))})
			lost += int(f)
			w := d.from(0, workers)
			switch d.from(0, 5) {
			case 0, 1:
				says(t, s, said{fmt.Sprint("fail ", w), either(c.Fail(w), "ok")})
			case 2:
				says(t, s, said{fmt.Sprint("back ", w), either(c.Back(w), "ok")})
			case 3:
				n, f := c.Join()
				says(t, s, said{"join", either(f, fmt.Sprint("worker ", n))})
			case 4:
				copies, without, f := c.Repair()
				says(t, s, said{"repair", either(f, fmt.Sprintf("copies %d lost %d", copies, without))})
			}
		}
	}
	if lost == 0 {
		t.Error("nothing was lost")
	}
}

// either returns an answer, or an error.
func either(e api.Errno, answer string) string {
	if e != api.OK {
		return errorNumber(e)
	}
	return answer
}
