package disk

import (
	"ledgerstone/api"
)

// fuse lets left operations through and stops the one behind them; then it is spent.
type fuse struct {
	set  bool
	left int
}

// power is whether the power is gone, and what is armed: arm takes it away, fail stops an operation.
type power struct {
	gone      bool
	arm, fail fuse
}

// Arm has the power go behind ops more operations.
func (d *Disk) Arm(ops int) api.Errno {
	err := d.mayArm(ops)
	if err == api.OK {
		d.power.arm = fuse{set: true, left: ops}
	}
	return err
}

// Fail has one operation fail behind ops more of them.
func (d *Disk) Fail(ops int) api.Errno {
	err := d.mayArm(ops)
	if err == api.OK {
		d.power.fail = fuse{set: true, left: ops}
	}
	return err
}

// mayArm is why nothing can be armed behind ops operations.
func (d *Disk) mayArm(ops int) api.Errno {
	switch {
	case !d.isMade():
		return api.ErrNil
	case ops < 0:
		return api.ErrArg
	}
	return api.OK
}

// operation counts an operation, and tells why it may not be done.
func (p *power) operation() api.Errno {
	if p.gone {
		return api.ErrDown
	}
	// Both are asked whatever the first one says: each counts what the other one stops.
	down, failed := p.arm.stops(), p.fail.stops()
	switch {
	case down:
		p.gone = true
		return api.ErrDown
	case failed:
		return api.ErrIO
	}
	return api.OK
}

// stops counts an operation, and is whether it is the one to be stopped.
func (f *fuse) stops() bool {
	if !f.set {
		return false
	}
	if f.left > 0 {
		f.left--
		return false
	}
	*f = fuse{}
	return true
}
