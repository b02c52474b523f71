package feed

import (
	"runtime"
	"slices"
	"strconv"
	"strings"
	"sync"
	"testing"

	"shredcol/api"
)

// manyFiles: texts that are told apart.
func manyFiles(many int) []string {
	var files []string
	for i := range many {
		files = append(files, strconv.Itoa(i))
	}
	return files
}

// TestP193Order: answers stand in the order of the files, whoever was done first.
func TestP193Order(t *testing.T) {
	for _, many := range []int{0, 1, 2, 15, 16, 17, 40} {
		for workers := 1; workers <= api.Workers; workers++ {
			files := manyFiles(many)
			got, err := ofEach(files, workers, func(s string) (string, error) { return s + "!", nil })
			if err != nil || len(got) != many || strings.Join(got, " ") != strings.Join(eachWith(files, "!"), " ") {
				t.Fatal(many, workers, got, err)
			}
		}
	}
}

func eachWith(l []string, end string) []string {
	var out []string
	for _, s := range l {
		out = append(out, s+end)
	}
	return out
}

// TestP193LastFirst: the file ahead waits for the one behind it, so that answers come in
// backwards.
func TestP193LastFirst(t *testing.T) {
	for many := 2; many <= api.Workers; many++ {
		done := make([]chan bool, many+1)
		for i := range done {
			done[i] = make(chan bool)
		}
		close(done[many])
		got, err := ofEach(manyFiles(many), many, func(s string) (int, error) {
			at, err := strconv.Atoi(s)
			<-done[at+1]
			close(done[at])
			return at * at, err
		})
		for at, n := range got {
			if n != at*at {
				t.Error(at, n)
			}
		}
		if len(got) != many || err != nil {
			t.Error(got, err)
		}
	}
}

// TestP193FirstError: of files that have unlike errors it is the first one's.
func TestP193FirstError(t *testing.T) {
	wrong := map[string]error{"3": api.ErrKind, "4": api.ErrText, "9": api.ErrSum}
	for workers := 1; workers <= api.Workers; workers++ {
		for range 20 {
			got, err := ofEach(manyFiles(12), workers, func(s string) (int, error) { return 1, wrong[s] })
			if err != api.ErrKind || got != nil {
				t.Fatal(workers, got, err)
			}
		}
	}
}

// TestP193EachOnce: each file is asked for once, by no more than so many at a time.
func TestP193EachOnce(t *testing.T) {
	for workers := 1; workers <= api.Workers; workers++ {
		var lock sync.Mutex
		var asked []string
		now, most := 0, 0
		_, err := ofEach(manyFiles(40), workers, func(s string) (bool, error) {
			lock.Lock()
			asked = append(asked, s)
			now++
			most = max(most, now)
			lock.Unlock()
			for range 100 {
				runtime.Gosched() // whoever may come, comes
			}
			lock.Lock()
			now--
			lock.Unlock()
			return true, nil
		})
		want := manyFiles(40)
		slices.Sort(asked)
		slices.Sort(want)
		if err != nil || !slices.Equal(asked, want) || most > workers {
			t.Error(workers, asked, most, err)
		}
	}
}

// TestP190SideBySide: as many as are asked for are at it at one time.
func TestP190SideBySide(t *testing.T) {
	for workers := 1; workers <= api.Workers; workers++ {
		var here sync.WaitGroup
		here.Add(workers)
		_, err := ofEach(manyFiles(workers), workers, func(string) (int, error) {
			here.Done()
			here.Wait() // for ever, were there fewer
			return 0, nil
		})
		if err != nil {
			t.Error(err)
		}
	}
}
