package feed

import "sync"

// task: one file of those that are handed out.
type task struct {
	at   int
	text string
}

// reply to a task: what was made of the file.
type reply[A any] struct {
	at   int
	made A
	err  error
}

// ofEach file what is made of it, in their order. Of several errors it is the first file's:
// all are asked, so that nothing hangs on who is done first.
func ofEach[A any](files []string, workers int, of func(s string) (A, error)) ([]A, error) {
	tasks, replies := make(chan task), make(chan reply[A])
	var all sync.WaitGroup
	for range min(workers, len(files)) {
		all.Go(func() {
			for x := range tasks {
				made, err := of(x.text)
				replies <- reply[A]{x.at, made, err}
			}
		})
	}
	got := handOut(files, tasks, replies)
	close(tasks)
	all.Wait()
	var out []A
	for _, r := range got {
		if r.err != nil {
			return nil, r.err
		}
		out = append(out, r.made)
	}
	return out, nil
}

// handOut all files, and take back as many replies, each to the place of its file. Both in one
// select: who waits to be heard would take no other task.
func handOut[A any](files []string, tasks chan<- task, replies <-chan reply[A]) []reply[A] {
	got := make([]reply[A], len(files))
	next := task{}
	for heard := 0; heard < len(files); {
		to := tasks
		if next.at < len(files) {
			next.text = files[next.at]
		} else {
			to = nil // nobody waits there, so that only replies are left
		}
		select {
		case to <- next:
			next.at++
		case r := <-replies:
			got[r.at] = r
			heard++
		}
	}
	return got
}
