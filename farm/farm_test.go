package farm_test

import (
	"math/rand"
	"runtime"
	"slices"
	"strconv"
	"strings"
	"testing"
	"time"

	"paddock/api"
	"paddock/farm"
	"paddock/marsh"
	"paddock/sandbox"
	"paddock/wood"
)

// small is a task with a text at the root, that may do all.
func small(name, script string) api.Task {
	return api.Task{Name: name, Job: api.Job{
		Script: script, Names: []string{"f"},
		Tree:   wood.Root(wood.Text("f", "a\nb\n")),
		Policy: marsh.Within(wood.Paths("/"), wood.Paths("/"), 1000),
	}}
}

// many are so many small tasks.
func many(n int) []api.Task {
	var out []api.Task
	for i := range n {
		out = append(out, small("t"+strconv.Itoa(i), "p"))
	}
	return out
}

// grown are so many tasks by chance, of which some have jobs that are not right.
func grown(chance func(int) int, n int) []api.Task {
	var out []api.Task
	for i := range n {
		j := marsh.Job(chance)
		switch chance(20) {
		case 0:
			j.Policy.Fuel = -1
		case 1:
			j.Tree.Kind = api.FileText
		case 2:
			j.Names = make([]string, api.MaxFiles+1)
		}
		out = append(out, api.Task{Name: "t" + strconv.Itoa(i), Job: j})
	}
	return out
}

// same tells whether two lists of outcomes are one.
func same(a, b []api.Outcome) bool { return slices.EqualFunc(a, b, sandbox.Same) }

// runs is what Run answers of tasks that are not too many.
func runs(t *testing.T, l []api.Task, workers int) []api.Outcome {
	t.Helper()
	o, why := farm.Run(l, workers)
	if why != api.OK || len(o) != len(l) {
		t.Fatalf("%d tasks, %d workers: error %d, %d outcomes", len(l), workers, why, len(o))
	}
	return o
}

// The chapter's examples, but those of Parse.
func TestExamples(t *testing.T) {
	l := []api.Task{{Name: "t", Job: api.Job{
		Script: "p", Options: api.Options{Quiet: true}, Names: []string{"in"},
		Policy: api.Policy{Read: wood.Paths("/"), Fuel: 9}, Tree: wood.Root(wood.Text("in", "x")),
	}}}
	want := "task \"t\"\nscript \"p\"\ninput \"\"\nsuffix \"\"\noption quiet\nname \"in\"\nread \"/\"\nfuel 9\nmemory 0\noutput 0\neach 0\ntext \"/in\" \"x\"\n"
	if s, why := farm.Print(l); s != want || why != api.OK {
		t.Errorf("Print: %q, %d", s, why)
	}
	if o := runs(t, nil, 1); len(o) != 0 {
		t.Error("of no tasks:", o)
	}
	if o, why := farm.Run(nil, 0); o != nil || why != api.ErrRange {
		t.Error("without workers:", o, why)
	}
	if s, why := farm.Report([]api.Task{{Name: "t"}}, []api.Outcome{{Code: 1, Message: "x"}}); s != "\"t\" code 1 out 0 steps 0 \"x\"\n" || why != api.OK {
		t.Errorf("Report: %q, %d", s, why)
	}
}

// 29.1: how many tasks and workers there may be, whatever the tasks are; of both that are wrong, the tasks are told.
func TestLimits(t *testing.T) {
	for _, workers := range []int{1, 2, api.MaxWorkers} {
		runs(t, nil, workers)
		runs(t, many(3), workers)
	}
	for _, workers := range []int{-1 << 63, -1, 0, api.MaxWorkers + 1, 1<<63 - 1} {
		for _, n := range []int{0, 1, api.MaxTasks} {
			if o, why := farm.Run(many(n), workers); o != nil || why != api.ErrRange {
				t.Errorf("%d tasks, %d workers: %d outcomes, error %d", n, workers, len(o), why)
			}
		}
		if o, why := farm.Run(many(api.MaxTasks+1), workers); o != nil || why != api.ErrMany {
			t.Errorf("too many tasks, %d workers: %d outcomes, error %d", workers, len(o), why)
		}
	}
	for _, o := range runs(t, many(api.MaxTasks), api.MaxWorkers) {
		if o.Out != "a\na\nb\nb\n" {
			t.Fatalf("of MaxTasks tasks: %q", o.Out)
		}
	}
	if o, why := farm.Run(many(api.MaxTasks+1), 1); o != nil || why != api.ErrMany {
		t.Error("too many tasks:", len(o), why)
	}
}

// 29.1: what comes of tasks that are not right is told in their places.
func TestWrongTasks(t *testing.T) {
	l := []api.Task{small("a", "p"), small("a", "k"), {}, small("", "s/b/c/"), small("a", "q3")}
	for workers := 1; workers <= 6; workers++ {
		var got []string
		for _, o := range runs(t, l, workers) {
			got = append(got, strconv.Quote(o.Out)+" "+strconv.Itoa(o.Code)+" "+o.Message)
		}
		if s := strings.Join(got, "; "); s != `"a\na\nb\nb\n" 0 ; "" 1 script byte 0 rule 1; "" 1 job code 30; "a\nc\n" 0 ; "a\n" 3 ` {
			t.Errorf("%d workers: %s", workers, s)
		}
	}
}

// 29.1, 29.6: with any number of workers each task has what it has alone; two lists one behind the other have what both have.
func TestAnySchedule(t *testing.T) {
	chance := rand.New(rand.NewSource(296)).Intn
	wrong, stopped := 0, 0
	for range 60 {
		l := grown(chance, chance(60))
		var want []api.Outcome
		for _, x := range l {
			o := sandbox.Run(x.Job)
			want = append(want, o)
			if o.Why != api.OK {
				wrong++
			} else if o.Message != "" {
				stopped++
			}
		}
		for _, workers := range []int{1, 2, 1 + chance(api.MaxWorkers), api.MaxWorkers} {
			if got := runs(t, l, workers); !same(got, want) {
				t.Fatalf("%d workers: not what each task has alone", workers)
			}
		}
		at := chance(len(l) + 1)
		if got := append(runs(t, l[:at], 3), runs(t, l[at:], 5)...); !same(got, want) {
			t.Fatal("two lists: not what both have")
		}
	}
	if wrong < 100 || stopped < 200 {
		t.Error("only a few:", wrong, stopped)
	}
}

// long is a task that takes a while.
func long(name string) api.Task {
	x := small(name, ":a;ba")
	x.Job.Policy.Fuel = 20000000
	return x
}

// begun is how many goroutines there are that a farm has begun; by their stacks, since other ones come and go.
func begun() int {
	stacks := make([]byte, 1<<20)
	return strings.Count(string(stacks[:runtime.Stack(stacks, true)]), "created by paddock/farm.")
}

// noneLeft waits till none is: a goroutine that has done all that it does may take a moment till it is no longer counted.
func noneLeft(t *testing.T) {
	t.Helper()
	for range 5000 {
		if begun() == 0 {
			return
		}
		time.Sleep(time.Millisecond)
	}
	t.Fatal("goroutines are left:", begun())
}

// 29.1: workers run at the same time, so many and no more; when the call has answered, none is left.
func TestWorkers(t *testing.T) {
	for _, workers := range []int{1, 3, 8} {
		noneLeft(t)
		var l []api.Task
		for i := range 8 {
			l = append(l, long("t"+strconv.Itoa(i)))
		}
		done := make(chan struct{})
		go func() {
			defer close(done)
			farm.Run(l, workers)
		}()
		most := 0
		for over := false; !over; {
			select {
			case <-done:
				over = true
			case <-time.After(time.Millisecond):
				most = max(most, begun())
			}
		}
		if most != workers {
			t.Errorf("%d workers: %d goroutines at most", workers, most)
		}
		noneLeft(t)
	}
}

// 29.5: what is handed in stays as it is, spare room too; answers are new memory, in all their lists.
func TestRunMemory(t *testing.T) {
	chance := rand.New(rand.NewSource(295)).Intn
	for range 20 {
		l := grown(chance, 1+chance(12))
		var was []api.Task
		for i := range l {
			l[i].Job = marsh.RoomyJob(l[i].Job)
			was = append(was, api.Task{Name: l[i].Name, Job: l[i].Job})
		}
		l = append(slices.Clip(l), api.Task{Name: "mark"})[:len(l)]
		var shown []string
		for _, x := range l {
			shown = append(shown, marsh.ShowJob(x.Job))
		}
		a, b := runs(t, l, 4), runs(t, l, 4)
		for i, x := range l {
			if x.Name != was[i].Name || marsh.ShowJob(x.Job) != shown[i] || !marsh.JobUntouched(x.Job, was[i].Job) {
				t.Fatal("what was handed in has changed")
			}
		}
		if l[:len(l)+1][len(l)].Name != "mark" {
			t.Fatal("spare room has changed")
		}
		var want []string
		for i := range l {
			want = append(want, marsh.ShowOutcome(b[i]))
			marsh.BlotJob(l[i].Job)
		}
		for i := range a {
			for k := range a {
				if marsh.ShowOutcome(b[k]) != want[k] || k >= i && marsh.ShowOutcome(a[k]) != want[k] {
					t.Fatalf("outcome %d shares memory with what was handed in, or with another one", k)
				}
			}
			marsh.BlotOutcome(a[i])
		}
	}
}

// 29.4: what is told of each, whatever the tasks and the outcomes are.
func TestReport(t *testing.T) {
	names := []api.Task{{Name: "a b"}, {Name: "\"\n\xff"}, {}, {Name: strings.Repeat("n", 300)}}
	outcomes := []api.Outcome{
		{Out: "a\nb\n", Code: 255, Steps: 12, Message: "denied read \"/s\" prefix", Cost: 40, Peak: 41, Stop: api.StopDenied},
		{Out: "\x00\xff", Code: -1, Steps: -1 << 63, Message: "\n"},
		{Code: 1<<63 - 1, Steps: 1<<63 - 1},
		{Out: strings.Repeat("x", 100000), Code: 10, Steps: 0},
	}
	want := `"a b" code 255 out 4 steps 12 "denied read \"/s\" prefix"` + "\n" +
		`"\"\n\377" code -1 out 2 steps -9223372036854775808 "\n"` + "\n" +
		`"" code 9223372036854775807 out 0 steps 9223372036854775807 ""` + "\n" +
		`"` + strings.Repeat("n", 300) + `" code 10 out 100000 steps 0 ""` + "\n"
	if s, why := farm.Report(names, outcomes); s != want || why != api.OK {
		t.Errorf("%q, %d", s, why)
	}
	if s, why := farm.Report(nil, nil); s != "" || why != api.OK {
		t.Errorf("of nothing: %q, %d", s, why)
	}
	for _, c := range [][2]int{{0, 1}, {1, 0}, {4, 3}, {3, 4}} {
		if s, why := farm.Report(names[:c[0]], outcomes[:c[1]]); s != "" || why != api.ErrRange {
			t.Errorf("%d and %d: %q, %d", c[0], c[1], s, why)
		}
	}
	l := many(2 * api.MaxTasks)
	if s, why := farm.Report(l, make([]api.Outcome, len(l))); strings.Count(s, "\n") != len(l) || why != api.OK {
		t.Error("of more than there may be:", why)
	}
}
