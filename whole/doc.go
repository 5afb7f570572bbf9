// Package whole has nothing but the tests of the promises of the whole, P1 to P8, and of its ten examples, through all layers.
package whole
