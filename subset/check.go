package subset

import "parterre/api"

const (
	mostNumber  = 60            // of a list that has a Rank
	mostChosen  = 30            // numbers of such a list, and of a Cascade
	mostThings  = 12            // of which a family has sets
	mostSum     = 1_000_000_000 // that Cascade takes apart
	mostChained = 10            // things of whose sets there are Chains
)

// checkSum tells what is wrong with a number that is to be taken apart.
func checkSum(m, k int) api.Errno {
	if m < 0 || k < 1 || k > mostChosen {
		return api.ErrRange
	}
	if m > mostSum {
		return api.ErrFull
	}
	return api.OK
}

func areUpTo(most int, list []int) bool {
	for _, x := range list {
		if x < 0 || x > most {
			return false
		}
	}
	return true
}

func rises(list []int) bool {
	for i := 1; i < len(list); i++ {
		if list[i] <= list[i-1] {
			return false
		}
	}
	return true
}
