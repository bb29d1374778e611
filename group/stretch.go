package group

import "weaver/api"

func mayBeGroups(groups int) bool {
	return 1 <= groups && groups <= api.MaxGroups
}

// mayBeTasks is false of groups that may not be, too: nobody can own them.
func mayBeTasks(groups, tasks int) bool {
	return mayBeGroups(groups) && 1 <= tasks && tasks <= min(groups, api.MaxTasks)
}

// firstOf is, of the number of tasks, the end of the last one's groups.
func firstOf(groups, tasks, task int) int {
	return task * groups / tasks
}

// ownerOf is the last task whose first group is not behind g. That group is a whole part, so
// it is not behind g just if task * groups / tasks, parts and all, is below g + 1.
func ownerOf(groups, tasks, g int) int {
	return ((g+1)*tasks - 1) / groups
}
