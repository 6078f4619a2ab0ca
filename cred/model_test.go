package cred_test

import "strconv"

// isOne tells whether a number is a user, by its digits: no sign, and none that is greater.
func isOne(uid int) bool {
	digits := strconv.Itoa(uid)
	if digits[0] == '-' {
		return false
	}
	return len(digits) < 5 || len(digits) == 5 && digits <= "65535"
}

// slow answers what a call should answer, each rule as the chapter says it.
func (c call) slow() answer {
	users := isOne(c.who) && isOne(c.whom)
	permitted := strconv.Itoa(c.who) == "0" || strconv.Itoa(c.who) == strconv.Itoa(c.whom)
	switch {
	case c.name == "May":
		return answer{ok: users && permitted}
	case !users:
		return answer{no: 22}
	case c.name == "Check":
		return answer{}
	case !permitted:
		return answer{no: 1}
	}
	return answer{n: c.whom}
}
