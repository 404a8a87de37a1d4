package clock

import (
	"sawmill/api"
	"strconv"
	"strings"
)

// Format returns a time as day, hour and minute.
func Format(at int) string {
	if !isTime(at) {
		return ""
	}
	return "d" + strconv.Itoa(at/day) + " " + twoDigits(at%day/hour) + ":" + twoDigits(at%hour)
}

func twoDigits(n int) string {
	if n < 10 {
		return "0" + strconv.Itoa(n)
	}
	return strconv.Itoa(n)
}

// Parse returns the time whose Format is s.
func Parse(s string) (int, api.Errno) {
	text, hasLetter := strings.CutPrefix(s, "d")
	text, minuteText, hasColon := strings.Cut(text, ":")
	dayText, hourText, hasSpace := strings.Cut(text, " ")
	if !hasLetter || !hasColon || !hasSpace {
		return 0, api.ErrSyntax
	}
	days, isDay := plainNumber(dayText)
	hours, isHour := twoDigitNumber(hourText, day/hour)
	minutes, isMinute := twoDigitNumber(minuteText, hour)
	if !isDay || !isHour || !isMinute {
		return 0, api.ErrSyntax
	}
	return asTime(days*day + hours*hour + minutes)
}

// plainNumber returns the number that a text without leading zeros denotes, and whether it is one.
func plainNumber(s string) (int, bool) {
	if len(s) > 1 && s[0] == '0' {
		return 0, false
	}
	return number(s, api.MaxNumber)
}

// twoDigitNumber returns the number below a limit that two digits denote, and whether it is one.
func twoDigitNumber(s string, limit int) (int, bool) {
	if len(s) != 2 {
		return 0, false
	}
	return number(s, limit-1)
}

// number returns the number that digits denote, and whether they are digits and it is not above the greatest one.
func number(s string, greatest int) (int, bool) {
	n := 0
	for _, c := range s {
		if c < '0' || c > '9' {
			return 0, false
		}
		if n = 10*n + int(c-'0'); n > greatest {
			return 0, false
		}
	}
	return n, s != ""
}
