package audit

import (
	"testing"

	"berthage/api"
)

// Promise 22.1: the times of jobs, also those that a table of jobs cannot bring about.
func TestTimely(t *testing.T) {
	for _, x := range []struct {
		state            int
		start, end, plan int64
		want             bool
	}{
		{api.Pending, -1, -1, -1, true},
		{api.Pending, -1, -1, 21, true},
		{api.Pending, -1, -1, 20, false},
		{api.Pending, -1, -1, 0, false},
		{api.Pending, -1, -1, -2, false},
		{api.Pending, 0, -1, -1, false},
		{api.Pending, 21, -1, 21, false},
		{api.Pending, -2, -1, -1, false},
		{api.Pending, -1, 0, -1, false},
		{api.Pending, -1, 31, 21, false},
		{api.Pending, 20, 30, -1, false},
		{api.Held, -1, -1, -1, true},
		{api.Held, -1, -1, 21, false},
		{api.Held, -1, -1, 0, false},
		{api.Held, 0, -1, -1, false},
		{api.Held, 20, -1, -1, false},
		{api.Held, -1, 0, -1, false},
		{api.Held, -1, 30, -1, false},
		{api.Running, 20, 30, -1, true},
		{api.Running, 11, 21, -1, true},
		{api.Running, 10, 20, -1, false},
		{api.Running, 0, 10, -1, false},
		{api.Running, 21, 31, -1, false},
		{api.Running, -1, 9, -1, false},
		{api.Running, -1, 21, -1, false},
		{api.Running, 15, 24, -1, false},
		{api.Running, 15, 26, -1, false},
		{api.Running, 15, -1, -1, false},
		{api.Running, -1, -1, -1, false},
		{api.Running, 15, 25, 0, false},
		{api.Running, 15, 25, 21, false},
	} {
		j := api.Job{State: x.state, Start: x.start, End: x.end, Plan: x.plan, Limit: 10}
		if got := timely(j, 20); got != x.want {
			t.Errorf("%+v at 20: %v", j, got)
		}
	}
}

// A job may have begun at 0, long ago.
func TestTimelySince0(t *testing.T) {
	j := api.Job{State: api.Running, Start: 0, End: api.MaxLimit, Plan: -1, Limit: api.MaxLimit}
	for now, want := range map[int64]bool{0: true, 1: true, api.MaxLimit - 1: true, api.MaxLimit: false} {
		if timely(j, now) != want {
			t.Errorf("%+v at %d: %v", j, now, !want)
		}
	}
	j = api.Job{State: api.Running, Start: -5, End: 5, Plan: -1, Limit: 10}
	if timely(j, 0) {
		t.Errorf("%+v at 0", j)
	}
}

func TestTimelyOfEnded(t *testing.T) {
	for _, state := range []int{api.Completed, api.Cancelled, api.TimedOut} {
		for _, x := range []struct {
			start, end, plan int64
			want             bool
		}{
			{-1, -1, -1, true},
			{-1, 0, -1, true},
			{-1, 99, -1, true},
			{-1, -1, 0, false},
			{-1, -1, 21, false},
			{0, 0, -1, true},
			{20, 20, -1, true},
			{5, 20, -1, true},
			{5, 5, -1, true},
			{5, 4, -1, false},
			{0, -1, -1, false},
			{5, 21, -1, false},
			{21, 21, -1, false},
			{5, 20, 0, false},
			{5, 20, 21, false},
		} {
			j := api.Job{State: state, Start: x.start, End: x.end, Plan: x.plan, Limit: 10}
			if got := timely(j, 20); got != x.want {
				t.Errorf("%+v at 20: %v", j, got)
			}
		}
	}
}
