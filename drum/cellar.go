package drum

import "fenberry/api"

// cellar is all vessels, how often something was taken out of each one, and all that has flowed.
type cellar struct {
	vessels [api.MaxVessels]api.Vessel
	takings [api.MaxVessels]int
	pipes   pipes
}

// play plays events, and returns the cellar behind them, and how many there are; otherwise the error of the first event that cannot be, and its index.
func play(l []api.DrumEvent) (c *cellar, index int, e api.Errno) {
	if len(l) > api.MaxDrumEvents {
		return nil, 0, api.ErrLong
	}
	defer func() {
		if cannotBe, ok := recover().(api.Errno); ok {
			c, e = nil, cannotBe
		}
	}()
	c = &cellar{pipes: pipes{}}
	for _, v := range l {
		c.happen(v)
		index++
	}
	return c, index, api.OK
}

// happen panics with the event's error if it cannot be.
func (c *cellar) happen(v api.DrumEvent) {
	refuseIf(!validEvent(v), api.ErrArg)
	kinds := [...]func(*cellar, api.DrumEvent){
		api.Deliver: (*cellar).deliver,
		api.Pour:    (*cellar).pour,
		api.Dump:    (*cellar).dump,
		api.Seal:    (*cellar).seal,
	}
	kinds[v.Kind](c, v)
}

func refuseIf(cannotBe bool, e api.Errno) {
	if cannotBe {
		panic(e)
	}
}

func (c *cellar) deliver(v api.DrumEvent) {
	refuseIf(c.isSealed(v.Vessel), api.ErrState)
	refuseIf(!c.hasRoom(v.Vessel, v.Amount), api.ErrLimit)
	c.put(v.Vessel, v.Amount, bedPlace(v.Bed))
}

func (c *cellar) pour(v api.DrumEvent) {
	refuseIf(v.Vessel == v.Other, api.ErrTwice)
	refuseIf(c.isSealed(v.Vessel) || c.isSealed(v.Other), api.ErrState)
	refuseIf(!c.has(v.Vessel, v.Amount), api.ErrShort)
	refuseIf(!c.hasRoom(v.Other, v.Amount), api.ErrLimit)
	c.put(v.Other, v.Amount, c.take(v.Vessel, v.Amount))
}

func (c *cellar) dump(v api.DrumEvent) {
	refuseIf(c.isSealed(v.Vessel), api.ErrState)
	refuseIf(!c.has(v.Vessel, v.Amount), api.ErrShort)
	c.pipes.flow(c.take(v.Vessel, v.Amount), wastePlace(), v.Amount)
}

func (c *cellar) seal(v api.DrumEvent) {
	refuseIf(c.isSealed(v.Vessel), api.ErrState)
	c.vessels[v.Vessel].Sealed = true
}

func (c *cellar) isSealed(vessel int) bool { return c.vessels[vessel].Sealed }

func (c *cellar) has(vessel, amount int) bool { return c.vessels[vessel].Amount >= amount }

func (c *cellar) hasRoom(vessel, amount int) bool {
	return c.vessels[vessel].Amount+amount <= api.MaxAmount
}

// place returns where that is which is now in a vessel.
func (c *cellar) place(vessel int) place { return vesselPlace(vessel, c.takings[vessel]) }

// put brings an amount from a place into a vessel.
func (c *cellar) put(vessel, amount int, from place) {
	c.pipes.flow(from, c.place(vessel), amount)
	c.vessels[vessel].Amount += amount
}

// take takes an amount out of a vessel, and returns the place from which it flows. What is left in the vessel is in another place from now on: what comes later is not mixed with what was taken.
func (c *cellar) take(vessel, amount int) place {
	from := c.place(vessel)
	c.vessels[vessel].Amount -= amount
	c.takings[vessel]++
	c.pipes.flow(from, c.place(vessel), c.vessels[vessel].Amount)
	return from
}

// isLast tells whether a place is one from which nothing has flowed on.
func (c *cellar) isLast(p place) bool {
	return p == wastePlace() || p.kind == inVessel && p == c.place(p.number)
}

// list returns the vessels, as new memory.
func (c *cellar) list() []api.Vessel { return append([]api.Vessel(nil), c.vessels[:]...) }
