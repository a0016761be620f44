package round

import "parterre/api"

// Bounds of what a starter is modulo: the greatest one leaves room for one team more.
const (
	leastModulus = 3
	mostModulus  = api.MaxTeams - 1
)

func isModulus(v int) bool { return v >= leastModulus && v <= mostModulus && v%2 == 1 }

// checkTwo tells what is wrong with one pair of a starter alone.
func checkTwo(v int, two []int) api.Errno {
	if len(two) != 2 {
		return api.ErrShape
	}
	for _, x := range two {
		if x < 1 || x >= v {
			return api.ErrRange
		}
	}
	return api.OK
}

// starts: does no number stand twice, and no difference? There are as many of each as numbers from 1 to v - 1, so that they are all these if they are unlike.
func starts(v int, pairs [][]int) bool {
	numbers, differences := map[int]int{}, map[int]int{}
	for _, two := range pairs {
		x, y := two[0], two[1]
		numbers[x]++
		numbers[y]++
		differences[(x-y+v)%v]++ // v is added, since % tells what is below 0 otherwise
		differences[(y-x+v)%v]++
	}
	return len(numbers) == v-1 && len(differences) == v-1
}

// isStrong: are the sums unlike, and none of them 0?
func isStrong(v int, pairs [][]int) bool {
	sums := map[int]int{}
	for _, two := range pairs {
		sums[(two[0]+two[1])%v]++
	}
	return sums[0] == 0 && len(sums) == len(pairs)
}

// opposites pairs each number from 1 to v - 1 with v less it.
func opposites(v int) [][]int {
	var out [][]int
	for x := 1; x < v-x; x++ {
		out = append(out, []int{x, v - x})
	}
	return out
}

// developed has a round for each number below v, which is added to all pairs, and which the team v meets itself.
func developed(v int, pairs [][]int) [][]int {
	out := make([][]int, v)
	for added := range out {
		round := make([]int, v+1)
		meet(round, v, added)
		for _, two := range pairs {
			meet(round, (two[0]+added)%v, (two[1]+added)%v)
		}
		out[added] = round
	}
	return out
}

func meet(round []int, a, b int) {
	round[a], round[b] = b, a
}
