package code128

import (
	"cmp"
	"slices"

	"barscan/api"
)

// A state is what the further values depend on: how many characters have been encoded, and the code set.
type state struct {
	done int
	set  codeSet
}

// A step is values and the state that follows them. Steps from the same state differ in their first values.
type step struct {
	values []int
	next   state
}

// never is a number of values that is not needed: a character needs at most two, and one more selects a code set.
const never = 3 * api.MaxText

// shortest returns the lexicographically least of the shortest sequences for characters, without check value and stop value.
func shortest(chars []int) []int {
	lengths := lengthsOf(chars)
	taken := best(starts(), lengths)
	values := taken.values
	for taken.next.done < len(chars) {
		taken = best(steps(chars, taken.next), lengths)
		values = append(values, taken.values...)
	}
	return values
}

// lengthsOf returns the least numbers of values that the characters that remain need, for all states.
func lengthsOf(chars []int) map[state]int {
	lengths := map[state]int{}
	for done := len(chars); done >= 0; done-- {
		for set := range setCount {
			lengths[state{done, set}] = straight(chars, state{done, set}, lengths)
		}
		// One change of the code set leads to all others, so that a second one is of no use.
		for set := range setCount {
			for _, change := range changes(state{done, set}) {
				lengths[state{done, set}] = min(lengths[state{done, set}], total(change, lengths))
			}
		}
	}
	return lengths
}

// straight returns the least number of values if the next one does not change the code set.
func straight(chars []int, s state, lengths map[state]int) int {
	if s.done == len(chars) {
		return 0
	}
	next, ok := advance(chars, s)
	if !ok {
		return never
	}
	return total(next, lengths)
}

// total returns the number of values of a step and of those that its next state needs.
func total(s step, lengths map[state]int) int {
	return len(s.values) + lengths[s.next]
}

// best returns the step with the least total, and of several ones that with the least first value.
func best(list []step, lengths map[state]int) step {
	return slices.MinFunc(list, func(a, b step) int {
		return cmp.Or(cmp.Compare(total(a, lengths), total(b, lengths)), cmp.Compare(a.values[0], b.values[0]))
	})
}

// starts returns the steps to the first states.
func starts() []step {
	var list []step
	for set := range setCount {
		list = append(list, step{[]int{startOf(set)}, state{0, set}})
	}
	return list
}

// steps returns the steps from a state with characters that remain.
func steps(chars []int, s state) []step {
	list := changes(s)
	if next, ok := advance(chars, s); ok {
		list = append(list, next)
	}
	return list
}

// changes returns the steps to the other code sets.
func changes(s state) []step {
	var list []step
	for set := range setCount {
		if set != s.set {
			list = append(list, step{[]int{codeOf(set)}, state{s.done, set}})
		}
	}
	return list
}

// advance returns the step that encodes the next character, or the next two digits, and keeps the code set; and whether there is one.
func advance(chars []int, s state) (step, bool) {
	char := chars[s.done]
	if v, ok := valueOf(s.set, char); ok {
		return step{[]int{v}, state{s.done + 1, s.set}}, true
	}
	if s.set != setC {
		v, _ := valueOf(shifted(s.set), char)
		return step{[]int{shift, v}, state{s.done + 1, s.set}}, true
	}
	if s.done+1 == len(chars) || !isDigit(char) || !isDigit(chars[s.done+1]) {
		return step{}, false
	}
	return step{[]int{10*(char-'0') + chars[s.done+1] - '0'}, state{s.done + 2, setC}}, true
}
