// Package bounds: which texts and numbers may be, for the layers.
package bounds

import "rostrum/api"

// IsText: may it be a text?
func IsText(s string) bool { return len(s) <= api.MaxText }

// IsKey: may it be a key, or a field?
func IsKey(s string) bool { return len(s) >= 1 && len(s) <= api.MaxKey }

// IsCount: may it be a count, or the number of a score?
func IsCount(n int) bool { return n >= -api.MaxCount && n <= api.MaxCount }

// IsTime: may it be a time?
func IsTime(n int) bool { return n >= 0 && n <= api.MaxTime }

// IsNumber: may it be that of a client, a call, a term or a place?
func IsNumber(n int) bool { return n >= 1 && n <= api.MaxNumber }
