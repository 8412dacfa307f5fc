// Package calendar is layer 2: civil dates and time zones. See shared/doc/02-calendar.md.
package calendar

import "chargenet/api"

const (
	dayMinutes = 1440
	firstYear  = 2000
	lastYear   = firstYear + api.MaxTime/(365*dayMinutes) // keeps the days of later years from overflowing

	maxOffset    = 840 // of a zone, in minutes to either side
	summerOffset = 60
	allDays      = 127
	reach        = 8 * dayMinutes // how far after t Next looks
)

// lengths has the days of the months of a year that is not a leap year.
var lengths = [12]int{31, 28, 31, 30, 31, 30, 31, 31, 30, 31, 30, 31}

// Date returns the date of a time in UTC.
func Date(t int) (api.Date, api.Errno) {
	if !isTime(t) {
		return api.Date{}, api.ErrRange
	}
	return civil(t), api.OK
}

// Time returns the time of a date in UTC.
func Time(d api.Date) (int, api.Errno) {
	if !exists(d) {
		return 0, api.ErrInvalid
	}
	day := dayOf(d.Year, d.Month, d.Day)
	if d.Weekday != 0 && d.Weekday != weekday(day) {
		return 0, api.ErrInvalid
	}
	t := day*dayMinutes + d.Minute
	if t > api.MaxTime {
		return 0, api.ErrInvalid
	}
	return t, api.OK
}

// Summer reports whether summer time holds.
func Summer(t int) bool {
	if !isTime(t) {
		return false
	}
	year := yearOf(t / dayMinutes)
	begin := lastSunday(year, 3)*dayMinutes + 60
	end := lastSunday(year, 10)*dayMinutes + 60
	return begin <= t && t < end
}

// Offset returns the minutes by which local time is ahead of UTC.
func Offset(z api.Zone, t int) int {
	if !validZone(z) {
		return 0
	}
	if z.Summer && Summer(t) {
		return z.Offset + summerOffset
	}
	return z.Offset
}

// Local returns the local date of a time.
func Local(z api.Zone, t int) (api.Date, api.Errno) {
	if !validZone(z) {
		return api.Date{}, api.ErrInvalid
	}
	if !isTime(t) {
		return api.Date{}, api.ErrRange
	}
	return civil(t + Offset(z, t)), api.OK
}

// Next returns the next time with a weekday and a minute of the day.
func Next(z api.Zone, t, days, minute int) (int, api.Errno) {
	if !validZone(z) || days < 0 || days > allDays || minute < 0 || minute >= dayMinutes {
		return 0, api.ErrInvalid
	}
	if !isTime(t) {
		return 0, api.ErrRange
	}
	if days == 0 {
		days = allDays
	}
	span := api.Span{From: t + 1, To: min(t+reach, api.MaxTime) + 1}
	next := firstAt(z, z.Offset, span, days, minute)
	if z.Summer {
		next = min(next, firstAt(z, z.Offset+summerOffset, span, days, minute))
	}
	if next == span.To {
		return 0, api.ErrNone
	}
	return next, api.OK
}

// firstAt returns the first time of the span at which local time is ahead of UTC by offset and has the minute and one of the weekdays; without such a time it returns the end of the span.
func firstAt(z api.Zone, offset int, span api.Span, days, minute int) int {
	_, now := split(span.From + offset)
	_, wait := split(minute - now)
	for t := span.From + wait; t < span.To; t += dayMinutes {
		day, _ := split(t + offset)
		if Offset(z, t) == offset && days>>(weekday(day)-1)&1 == 1 {
			return t
		}
	}
	return span.To
}

func isTime(t int) bool {
	return t >= 0 && t <= api.MaxTime
}

func validZone(z api.Zone) bool {
	return z.Offset >= -maxOffset && z.Offset <= maxOffset
}

// exists reports whether d, whatever its weekday, is a date of a year that has times.
func exists(d api.Date) bool {
	return d.Year >= firstYear && d.Year <= lastYear && d.Month >= 1 && d.Month <= 12 &&
		d.Day >= 1 && d.Day <= monthLength(d.Year, d.Month) && d.Minute >= 0 && d.Minute < dayMinutes
}

// split returns the day and the minute of the day of m minutes since 2000-01-01, which may be negative.
func split(m int) (day, minute int) {
	day, minute = m/dayMinutes, m%dayMinutes
	if minute < 0 {
		return day - 1, minute + dayMinutes
	}
	return day, minute
}

// civil returns the date of m minutes since 2000-01-01, which may be negative: local dates begin in 1999.
func civil(m int) api.Date {
	day, minute := split(m)
	year := yearOf(day)
	month, rest := 1, day-yearStart(year)
	for rest >= monthLength(year, month) {
		rest -= monthLength(year, month)
		month++
	}
	return api.Date{Year: year, Month: month, Day: rest + 1, Weekday: weekday(day), Minute: minute}
}

// dayOf returns the day of a date that exists, counted from 2000-01-01.
func dayOf(year, month, day int) int {
	n := yearStart(year) + day - 1
	for m := 1; m < month; m++ {
		n += monthLength(year, m)
	}
	return n
}

// yearOf returns the year of a day, which is not before 1999.
func yearOf(day int) int {
	// No year has more than 366 days, so the first guess is never too late.
	year := firstYear - 1 + day/366
	for yearStart(year+1) <= day {
		year++
	}
	return year
}

// yearStart returns the first day of a year from 1999 on, counted from 2000-01-01.
func yearStart(year int) int {
	n := year - firstYear
	leaps := (n+3)/4 - (n+99)/100 + (n+399)/400
	return 365*n + leaps
}

func monthLength(year, month int) int {
	if month == 2 && leap(year) {
		return 29
	}
	return lengths[month-1]
}

func leap(year int) bool {
	return year%4 == 0 && (year%100 != 0 || year%400 == 0)
}

// weekday returns the weekday of a day that is not before 1999-12-27; 2000-01-01 is a Saturday.
func weekday(day int) int {
	return (day+5)%7 + 1
}

// lastSunday returns the day of the last Sunday in a month.
func lastSunday(year, month int) int {
	last := dayOf(year, month, monthLength(year, month))
	return last - weekday(last)%7
}
