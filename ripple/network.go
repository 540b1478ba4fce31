package ripple

import "ripple/api"

// Send sends what is new to a neighbour (P12).
func (x *Cluster) Send(r int, q int) api.Errno { return api.OK }

// As nothing is sent yet, there is no k-th frame, whatever k is.

// Deliver lets the k-th frame arrive (P13).
func (x *Cluster) Deliver(k int) api.Errno { return api.ErrNone }

// Drop loses the k-th frame (P13).
func (x *Cluster) Drop(k int) api.Errno { return api.ErrNone }

// Copy sends the k-th frame once more (P13).
func (x *Cluster) Copy(k int) api.Errno { return api.ErrNone }

// Flight tells how many frames are in flight (P13).
func (x *Cluster) Flight() int { return 0 }

// Frame tells the k-th frame (P13).
func (x *Cluster) Frame(k int) (api.Frame, api.Errno) { return api.Frame{}, api.ErrNone }
