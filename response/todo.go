package response

import "bellman/api"

// The statuses by which it is not just to be asked again.
const (
	good    = 200
	nothing = 204
)

// names are those of what is to be done.
var names = [4]string{
	api.TodoNone:   "",
	api.TodoStream: "stream",
	api.TodoStop:   "stop",
	api.TodoAgain:  "again",
}

// todos tell what is to be done, by the statuses by which it is not just to be asked again.
func todos() map[int]func(api.Reply) api.Todo {
	return map[int]func(api.Reply) api.Todo{
		good: func(r api.Reply) api.Todo {
			if !r.Event {
				return api.TodoAgain
			}
			return api.TodoStream
		},
		nothing: func(api.Reply) api.Todo { return api.TodoStop },
	}
}

// whats are what is to be done of heads.
func whats(l ...api.Head) []api.Todo {
	all := make([]api.Todo, len(l))
	for number, h := range l {
		// Of no reply it is the zero one, of which nothing is to be done.
		r, _ := Of(h)
		all[number] = What(r)
	}
	return all
}
